/-
  MjVW, MiIW, MkAW, MkBW, MkDM, MkEW, MlVW, MiGW, MiPW, MiJW, MiKW, MiLM, MiLW, MiMW, MiQW, MkFW, MkCW, MiFW, MkGW, MkHW, MkJW, MkMM, MkLM.
-/
import Derived.Test.YtjmmckkiicefhaaDoorMgf
import Derived.Test.YtjmmckkiicefhaaDoorMga
import Derived.BigRegion
import Derived.Test.YtjmmckkiicefhaaDoorMgd
import Derived.Test.YtjmmckkiicefhaaDoorMgc
import Derived.Laws.MakeOwn
import Derived.Deep.RegionHeld3
namespace Go.Proofs.YtjmmckkiicefhaaDoor
open Go.RowKit Go.Shelf
theorem outF_mem {O : List (List Int)} {L : List Nat} {r : List Int} (h : r ∈ L.map (outF O)) : r = [] ∨ r ∈ O := by
  obtain ⟨s, _, rfl⟩ := List.mem_map.1 h
  unfold outF
  rw [List.getD_eq_getElem?_getD]
  by_cases hs : s < O.length
  · rw [List.getElem?_eq_getElem hs]
    exact .inr (List.getElem_mem hs)
  · rw [List.getElem?_eq_none (by omega)]
    exact .inl rfl
/-- What parted and joined ask of what wholeOf made. -/
theorem who_facts {m st : Nat} {N _O : List (List Int)} {L FN : List Nat} (hw : Whl m st N L.length (Lg1 L) (Fl FN)) (hl : FN.length = L.length * m) (hnb : N.length ≤ 2200000) (hNb : N.length * m ≤ 2200000) : L.length ≤ 2200000 ∧ L.length * m ≤ 2200000 ∧ (∀ c (h : c < (natI FN).length), (natI FN)[c] = ((Fl FN c : Nat) : Int) ∧ Fl FN c < L.length) ∧ (1 < L.length → 0 < m) := by
  have h1 := hw.le
  have h2 := Nat.mul_le_mul_right m h1
  refine ⟨by omega, by omega, fun c h => ?_, fun h => ?_⟩
  · rw [natI_len] at h
    have hm0 : 0 < m := by
      rcases Nat.eq_zero_or_pos m with e | e
      · rw [hl, e] at h; simp at h
      · exact e
    refine ⟨?_, ?_⟩
    · have e : Fl FN c = FN[c] := by
        unfold Fl
        rw [List.getD_eq_getElem?_getD, List.getElem?_eq_getElem h]
        rfl
      rw [e]
      unfold natI
      exact List.getElem_map _
    · have h3 := hw.fl (c / m) (c % m) ((Nat.div_lt_iff_lt_mul hm0).2 (by omega)) (Nat.mod_lt _ hm0)
      rw [Nat.mul_comm, Nat.div_add_mod] at h3
      exact h3
  · rcases Nat.eq_zero_or_pos m with e | e
    · have h4 := hw.bfs.row 1 h
      rw [e] at h4
      simp [top] at h4
    · exact e
theorem Bag.only2 {W U : World} {lo R : Nat} {v : Value} {ps : Lot} {rc : Array Value} (h : Bag W lo v ps) (ho : Only W U (fun b => b = R)) (hr : W.heap[R]? = some (.cells rc 24 (0, 0))) : Bag U lo v ps := by
  have key : ∀ {b : Nat} {cb : Array Value} {tb : TypeId}, W.heap[b]? = some (.cells cb tb (0, 0)) → tb ≠ 24 → U.heap[b]? = W.heap[b]? := fun {b cb tb} hb hn => ho.block b (Array.getElem?_eq_some_iff.1 hb).1 (blk_ne hb hr hn)
  refine ⟨own_blk h.outer (fun k hk => ?_), fun x hx => own_blk (h.row x hx) (fun k hk => ?_), h.apart, h.away⟩
  · obtain ⟨c2, hc⟩ := own_ty h.outer hk
    exact key hc (by decide)
  · obtain ⟨c2, hc⟩ := own_ty (h.row x hx) hk
    exact key hc (by decide)
/-- A machine is laid into the result's cells. -/
structure LaidM (W v1 v2 v3 : World) (R : Nat) (a b : Value) : Prop where
  g1 : W.setCell ⟨R, 0, none⟩ (.int .i64 0) = v1
  g2 : v1.setCell ⟨R, 1, none⟩ a = v2
  g3 : v2.setCell ⟨R, 2, none⟩ b = v3
  z : W.cell? ⟨R, 0, none⟩ = some (.int .i64 0) ∧ W.cell? ⟨R, 1, none⟩ = some (.slice none 0 0) ∧ W.cell? ⟨R, 2, none⟩ = some (.slice none 0 0)
  a1 : v1.cell? ⟨R, 1, none⟩ = some (.slice none 0 0)
  a2 : v2.cell? ⟨R, 2, none⟩ = some (.slice none 0 0)
  f0 : ∀ k, W.frozen? ⟨R, k, none⟩ = false
  f1 : ∀ k, v1.frozen? ⟨R, k, none⟩ = false
  f2 : ∀ k, v2.frozen? ⟨R, k, none⟩ = false
  b : v3.cell? ⟨R, 0, none⟩ = some (.int .i64 0) ∧ v3.cell? ⟨R, 1, none⟩ = some a ∧ v3.cell? ⟨R, 2, none⟩ = some b
  only : Only W v3 (fun k => k = R)
theorem laidM {W : World} {R : Nat} (a b : Value) (hrb : W.heap[R]? = some (.cells #[.int .i64 0, .slice none 0 0, .slice none 0 0] 24 (0, 0))) : ∃ v1 v2 v3, LaidM W v1 v2 v3 R a b := by
  have r1 := heap_setCell_same W R 0 _ _ (.int .i64 0) hrb
  have r2 := heap_setCell_same _ R 1 _ _ a r1
  have r3 := heap_setCell_same _ R 2 _ _ b r2
  refine ⟨_, _, _, rfl, rfl, rfl, ⟨?_, ?_, ?_⟩, ?_, ?_, fun k => by simp [World.frozen?, hrb], fun k => by simp [World.frozen?, r1], fun k => by simp [World.frozen?, r2], ⟨?_, ?_, ?_⟩, ((Only.setCell _ _ _ _).trans (Only.setCell _ _ _ _) (fun _ h => .inl h)).trans (Only.setCell _ _ _ _) (fun _ h => .inl h)⟩
  all_goals first
    | (rw [cell_of_row _ _ _ _ _ _ hrb]; rfl)
    | (rw [cell_of_row _ _ _ _ _ _ r1]; rfl)
    | (rw [cell_of_row _ _ _ _ _ _ r2]; rfl)
    | (rw [cell_of_row _ _ _ _ _ _ r3]; rfl)
theorem OfR.only {w W U : World} {m R : Nat} {st : Int} {N O : List (List Int)} {vN vO : Value} {rc : Array Value} (h : OfR w W m st N O vN vO) (ho : Only W U (fun b => b = R)) (hr : W.heap[R]? = some (.cells rc 24 (0, 0))) : OfR w U m st N O vN vO := by
  obtain ⟨pN, pO, h1, h2, h3⟩ := h
  exact ⟨pN, pO, h1.only2 ho hr, h2.only2 ho hr, h3⟩
set_option maxRecDepth 10000 in
set_option maxHeartbeats 1600000 in
theorem of_yes (s0 m : Nat) (N O : List (List Int)) (aN aO : Option Addr) (cN cO : Nat) (w : World) (hmay : mayF (s0 : Int) N O (m : Int) = true) (hnb : N.length ≤ 2200000) (hNb : N.length * m ≤ 2200000) (hmb : m ≤ 2200000) (hr : ∀ r ∈ O, r.length ≤ 2200000) (hz : ∀ r ∈ O, ∀ z ∈ r, 0 ≤ z ∧ z < 9223372036854775808) (ha : RwA w aN N) (hb : RwA w aO O) :
    Calls Tryd.prog 7 #[.agg #[.int .i64 (s0 : Int), .slice aN N.length cN, .slice aO O.length cO], .int .i64 (m : Int)] w fun e w' => ∃ vN vO, e = .returned (.tuple #[.agg #[.int .i64 0, vN, vO], .nilIface]) ∧ OfR w w' m (s0 : Int) N O vN vO ∧ Below w.heap.size w w' := by
  obtain ⟨n', hn', hm⟩ := mayF_may hmay
  obtain rfl : m = n' := by omega
  have hOl := hm.out
  have hst : s0 < N.length := by have := hm.start; omega
  have HMb : Hid (∀ V, Below w.heap.size w V → Calls Tryd.prog 17 #[.agg #[.int .i64 (s0 : Int), .slice aN N.length cN, .slice aO O.length cO], .int .i64 (m : Int)] V fun e w' => e = .returned (.bool true) ∧ Below V.heap.size V w') := hid0 (fun V hV => by
    have h := mayBe_any (s0 : Int) (m : Int) N O aN aO cN cO V (by omega) (fun r hr' => by rw [hm.row r hr']; omega) (fun r hr' => by have := hr r hr'; omega) (ha.past hV) (hb.past hV)
    rw [hmay] at h
    exact h)
  have HWo : Hid (∀ V, Below w.heap.size w V → Calls Tryd.prog 18 #[.agg #[.int .i64 (s0 : Int), .slice aN N.length cN, .slice aO O.length cO], .int .i64 (m : Int)] V fun e w' => ∃ X, e = .returned (.pointer (some ⟨X, 0, none⟩)) ∧ WhO w' X m s0 N O ∧ Below V.heap.size V w') := hid0 (fun V hV => by
    rw [hOl]
    exact wholeOf_any s0 m N.length N O aN aO cN cO V rfl hOl (ha.past hV) (hb.past hV) hst hm.row hm.num hnb hNb hmb)
  have HH := hid0 (And.intro hmay (And.intro hr hz))
  obtain ⟨w0, hw0⟩ : ∃ w0, w0 = w.alloc (.cells #[.int .i64 (s0 : Int), .slice aN N.length cN, .slice aO O.length cO] 24) := ⟨_, rfl⟩
  obtain ⟨w1, hw1⟩ : ∃ w1, w1 = w0.alloc (.cells #[.int .i64 0, .slice none 0 0, .slice none 0 0] 24) := ⟨_, rfl⟩
  have s0' : w0.heap.size = w.heap.size + 1 := by rw [hw0]; simp
  have m0 : w0.heap[w.heap.size]? = some (.cells #[.int .i64 (s0 : Int), .slice aN N.length cN, .slice aO O.length cO] 24 (0, 0)) := by rw [hw0]; exact heap_alloc_new _ _
  have m1 : w1.heap[w.heap.size]? = some (.cells #[.int .i64 (s0 : Int), .slice aN N.length cN, .slice aO O.length cO] 24 (0, 0)) := by rw [hw1, Below.heap_alloc _ _ _ (by omega)]; exact m0
  have r1 : w1.heap[w0.heap.size]? = some (.cells #[.int .i64 0, .slice none 0 0, .slice none 0 0] 24 (0, 0)) := by rw [hw1]; exact heap_alloc_new _ _
  have hB1 : Below w.heap.size w w1 := by
    rw [hw1, hw0] at *
    exact ((Below.refl _ _).alloc (Nat.le_refl _) _).alloc (by omega) _
  have HC : Hid (∀ V : World, V.heap[w.heap.size]? = some (.cells #[.int .i64 (s0 : Int), .slice aN N.length cN, .slice aO O.length cO] 24 (0, 0)) → V.cell? ⟨w.heap.size, 0, none⟩ = some (.int .i64 (s0 : Int)) ∧ V.cell? ⟨w.heap.size, 1, none⟩ = some (.slice aN N.length cN) ∧ V.cell? ⟨w.heap.size, 2, none⟩ = some (.slice aO O.length cO)) := hid0 (fun V hV => by
    refine ⟨?_, ?_, ?_⟩ <;> (rw [cell_of_row _ _ _ _ _ _ hV]; rfl))
  obtain ⟨x0, x1, x2⟩ := HC.out w1 m1
  have HB1 := hid0 hB1
  have q0s := hid0 s0'
  have HM1 := hid0 m1
  have HR1 := hid0 r1
  have q0 := hw0.symm
  have q1 := hw1.symm
  clear hw0 hw1 m0 m1 r1 hB1 ha hb hr hz hmay hm hOl hst hn' s0'
  go_enter Tryd.func7, Tryd.ntmps7
  go_upto_region 3 with (go_at_call 17; go_loud ((refine (HMb.out _ HB1.out).mono ?_; rintro e w2 ⟨rfl, hb2⟩)))
  obtain ⟨x0', x1', x2'⟩ := HC.out w2 ((hb2.block _ (Array.getElem?_eq_some_iff.1 HM1.out).1).trans HM1.out)
  have HB2 : Hid (Below w.heap.size w w2) := hid0 (HB1.out.trans ⟨hb2.os, hb2.tape, hb2.output, hb2.size, fun k hk => hb2.block k (by have := HB1.out.size; omega)⟩)
  have HR2 := hid0 ((hb2.block _ (Array.getElem?_eq_some_iff.1 HR1.out).1).trans HR1.out)
  clear hb2 q0 q1 x0 x1 x2
  go_upto_region 4 with (go_at_call 18; go_loud ((refine (HWo.out _ HB2.out).mono ?_; rintro e w3 ⟨X, rfl, hwo, hb3⟩; have HW3 := hid0 hwo; have HB3' := hid0 hb3; clear hwo hb3)))
  obtain ⟨L, FN, aN', cN', aO', cO', hwh, hwl, hfl, hcap⟩ := HW3.out
  have HB3 : Hid (Below w.heap.size w w3) := hid0 (HB2.out.trans ⟨HB3'.out.os, HB3'.out.tape, HB3'.out.output, HB3'.out.size, fun k hk => HB3'.out.block k (by have := HB2.out.size; omega)⟩)
  have HR3 := hid0 ((HB3'.out.block _ (Array.getElem?_eq_some_iff.1 HR2.out).1).trans HR2.out)
  obtain ⟨hmay, hr, hz⟩ := HH.out
  obtain ⟨k1, k2, k3, k4⟩ := who_facts (_O := O) hwl hfl hnb hNb
  have hr' : ∀ r ∈ L.map (outF O), r.length ≤ 2200000 := fun r hr' => by
    rcases outF_mem hr' with rfl | h
    · exact Nat.zero_le _
    · exact hr r h
  have hz' : ∀ r ∈ L.map (outF O), ∀ z ∈ r, 0 ≤ z ∧ z < 9223372036854775808 := fun r hr' => by
    rcases outF_mem hr' with rfl | h
    · exact fun z h => absurd h (by simp)
    · exact hz r h
  have HPa := hid0 (parted_any X m L.length aN' cN' (natI FN) aO' cO' (L.map (outF O)) (Fl FN) w3 hwh (by simp) hwl.pos k1 hmb (by rw [natI_len]; exact hfl) k2 k3 k4 hr' hz')
  have HJn : Hid (∀ (V : World) (C : Nat) (cl : Nat → Nat), Below w3.heap.size w3 V → Ov V C L.length cl → (∀ s, s < L.length → cl s < L.length) → Calls Tryd.prog 19 #[.pointer (some ⟨X, 0, none⟩), .slice (some ⟨C, 0, none⟩) L.length L.length] V fun e w' => ∃ vN vO, e = .returned (.agg #[.int .i64 0, vN, vO]) ∧ JnR V w' L.length m (Fl FN) cl (L.map (outF O)) vN vO ∧ Below V.heap.size V w') := hid0 (fun V C cl hV hC hcl => joined_any X m L.length aN' cN' (natI FN) aO' cO' (L.map (outF O)) (Fl FN) cl C V (hwh.past hV) hC hcl (by simp) k1 hmb (by rw [natI_len]; exact hfl) (by rw [← hfl]; exact hcap) k2 k3 hr')
  have HLs : Hid (∀ (V w' : World) (cl : Nat → Nat) (vN vO : Value), Cls m L.length (Fl FN) (fun s => (L.map (outF O)).getD s []) cl → w.heap.size ≤ V.heap.size → JnR V w' L.length m (Fl FN) cl (L.map (outF O)) vN vO → OfR w w' m (s0 : Int) N O vN vO) := hid0 (fun V w' cl vN vO h1 h2 h3 => jn_lst (_X := X) hmay hwl h1 h2 h3)
  clear hwh hwl hfl hcap hmay hr hz k1 k2 k3 k4 hr' hz' HW3 HH HWo HMb x0' x1' x2' HC HM1 HB1 HR1 HR2 HB3'
  have HLow : Hid (w.heap.size ≤ w0.heap.size) := hid0 (by have := q0s.out; omega)
  have HNx : Hid (∀ (w4 w5 : World) (cl : Nat → Nat) (vN vO : Value), Below w3.heap.size w3 w4 → Cls m L.length (Fl FN) (fun s => (L.map (outF O)).getD s []) cl → JnR w4 w5 L.length m (Fl FN) cl (L.map (outF O)) vN vO → Below w4.heap.size w4 w5 → (∃ a l c, vN = .slice a l c) ∧ (∃ a l c, vO = .slice a l c) ∧ ∃ v1 v2 v3, LaidM w5 v1 v2 v3 w0.heap.size vN vO ∧ OfR w v3 m (s0 : Int) N O vN vO ∧ Below w.heap.size w v3) := hid0 (fun w4 w5 cl vN vO hb4 hc hj hb5 => by
    have hs3 := HB3.out.size
    have hof := HLs.out w4 w5 cl vN vO hc (by have := hb4.size; omega) hj
    have hr4 := (hb4.block _ (Array.getElem?_eq_some_iff.1 HR3.out).1).trans HR3.out
    have hr5 := (hb5.block _ (Array.getElem?_eq_some_iff.1 hr4).1).trans hr4
    have hB5 : Below w.heap.size w w5 := (HB3.out.trans ⟨hb4.os, hb4.tape, hb4.output, hb4.size, fun k hk => hb4.block k (by omega)⟩).trans ⟨hb5.os, hb5.tape, hb5.output, hb5.size, fun k hk => hb5.block k (by have := hb4.size; omega)⟩
    obtain ⟨v1, v2, v3, hl⟩ := laidM vN vO hr5
    have hof2 := hof
    obtain ⟨pN, pO, h1, h2, _⟩ := hof2
    obtain ⟨aA, cA, eA, _⟩ := h1.rwq
    obtain ⟨aB, cB, eB, _⟩ := h2.rwq
    exact ⟨⟨_, _, _, eA⟩, ⟨_, _, _, eB⟩, v1, v2, v3, hl, hof.only hl.only hr5, hB5.trans (hl.only.below hB5.size (fun k hk => by rw [hk]; exact HLow.out))⟩)
  go_wp2_with (first
    | (go_at_call 20; go_loud ((refine HPa.out.mono ?_; rintro e w4 ⟨C, rfl, hcl, _, hb4⟩; have HCl := hid0 hcl; have HB4 := hid0 hb4; clear hcl hb4)))
    | (go_at_call 19; go_loud ((obtain ⟨cl, hov, hcls, hclt⟩ := HCl.out; refine (HJn.out w4 C cl HB4.out hov hclt).mono ?_; rintro e w5 ⟨vN, vO, rfl, hj, hb5⟩; obtain ⟨⟨aA, lA, cA, rfl⟩, ⟨aB, lB, cB, rfl⟩, v1, v2, v3, hl, hof, hbl⟩ := HNx.out w4 w5 cl vN vO HB4.out hcls hj hb5; have HFin := hid0 (And.intro hof hbl); have g1 := hl.g1; have g2 := hl.g2; have g3 := hl.g3; obtain ⟨z0, z1, z2⟩ := hl.z; have a1 := hl.a1; have a2 := hl.a2; have f0 := hl.f0; have f1 := hl.f1; have f2 := hl.f2; obtain ⟨b0, b1, b2⟩ := hl.b; clear hl hof hbl hj hb5 hov hcls hclt))))
  (try simp only [Exit.inBlock, Exit.then])
  refine bodyPost_ret (by simp [results, Tryd.results7, go_sem, b0, b1, b2]; try rfl) rfl ?_
  exact ⟨_, _, rfl, HFin.out⟩
end Go.Proofs.YtjmmckkiicefhaaDoor
namespace Go.Proofs.YtjmmckkiicefhaaDoor
open Go.RowKit Go.Shelf
theorem eq_upto {L M : List Int} (hl : L.length = M.length) (h : ∀ k, k < L.length → L[k]? = M[k]?) : L = M := by
  apply List.ext_getElem?
  intro k
  rcases Nat.lt_or_ge k L.length with hk | hk
  · exact h k hk
  · rw [List.getElem?_eq_none hk, List.getElem?_eq_none (by omega)]
set_option maxRecDepth 10000 in
set_option maxHeartbeats 800000 in
theorem equal_any (L M : List Int) (a b : Option Addr) (ca cb : Nat) (w : World) (hl : L.length ≤ 17592186044000) (ha : IA w a L) (hb : IA w b M) :
    Calls Tryd.prog 42 #[.slice a L.length ca, .slice b M.length cb] w fun e w' => e = .returned (.bool (decide (L = M))) ∧ ∃ n, w' = w.drewN n := by
  have HA := hid0 ha
  have HB := hid0 hb
  clear ha hb
  by_cases hlen : L.length = M.length
  · have hlI : (L.length : Int) = (M.length : Int) := by omega
    have HL := hid0 hlen
    clear hlen
    go_enter Tryd.func42, Tryd.ntmps42
    go_wp2
    go_loopw [13] (fun i wr => ∃ k : Nat, k ≤ L.length ∧ i = .int .i64 (k : Int) ∧ (∃ n, wr = w.drewN n) ∧ Hid (∀ j, j < k → L[j]? = M[j]?)) (fun i _ => L.length - (intOf i).toNat)
    case atStart => exact ⟨0, Nat.zero_le _, rfl, ⟨0, rfl⟩, hid0 (fun j h => absurd h (Nat.not_lt_zero _))⟩
    case round =>
      obtain ⟨k, hk, rfl, ⟨nd, rfl⟩, HE⟩ := hrel
      by_cases hlt : k < L.length
      · have hltM : k < M.length := by have := HL.out; omega
        obtain ⟨b1, o1, rfl, _, d1⟩ := HA.out.at' k hlt
        obtain ⟨b2, o2, rfl, _, d2⟩ := HB.out.at' k hltM
        have hkI : (k : Int) < (L.length : Int) := by omega
        have hkM : (k : Int) < (M.length : Int) := by omega
        have hkI0 : (0 : Int) ≤ (k : Int) := by omega
        have HG1 : Hid (L[k]? = some L[k]) := hid0 (List.getElem?_eq_getElem hlt)
        have HG2 : Hid (M[k]? = some M[k]) := hid0 (List.getElem?_eq_getElem hltM)
        generalize L[k] = s at *
        generalize M[k] = u at *
        by_cases hsu : s = u
        · subst hsu
          have hself : (s == s) = true := by simp
          have hself2 : (s != s) = false := by simp
          have HE2 : Hid (∀ j, j < k + 1 → L[j]? = M[j]?) := hid0 (fun j hj => by
            by_cases e : j = k
            · subst e; rw [HG1.out, HG2.out]
            · exact HE.out j (by omega))
          clear HE HG1 HG2
          go_wp2
          go_quiet ((fail))
          go_wp2
          go_roundw
          case rel => exact ⟨k + 1, by omega, by go_num, ⟨_, rfl⟩, HE2⟩
          case measure => simp [intOf]; omega
        · have hne : (s == u) = false := by simpa using hsu
          have hne2 : (s != u) = true := by simpa using hsu
          have HV : Hid (decide (L = M) = false) := hid0 (decide_eq_false (fun e => by
            subst e
            rw [HG1.out] at HG2
            exact hsu (by have := HG2.out; cases this; rfl)))
          clear HE HG1 HG2
          go_wp2
          go_quiet ((fail))
          go_wp2
          go_ret
          exact ⟨by rw [HV.out]; rfl, _, World.drewN_drewN _ _ _⟩
      · have hkI : ¬ (k : Int) < (L.length : Int) := by omega
        have HV : Hid (decide (L = M) = true) := hid0 (decide_eq_true (eq_upto HL.out (fun j hj => HE.out j (by omega))))
        clear HE
        go_wp2
        go_ret
        exact ⟨by rw [HV.out]; rfl, nd, rfl⟩
  · have hlI : ¬ (L.length : Int) = (M.length : Int) := by omega
    have HV : Hid (decide (L = M) = false) := hid0 (decide_eq_false (fun e => hlen (by rw [e])))
    clear hlen
    go_enter Tryd.func42, Tryd.ntmps42
    go_wp2
    go_ret
    exact ⟨by rw [HV.out]; rfl, 0, rfl⟩
set_option maxRecDepth 10000 in
set_option maxHeartbeats 800000 in
theorem sameInts_any (L M : List Int) (a b : Option Addr) (ca cb : Nat) (w : World) (hl : L.length ≤ 17592186044000) (ha : IA w a L) (hb : IA w b M) :
    Calls Tryd.prog 40 #[.slice a L.length ca, .slice b M.length cb] w fun e w' => e = .returned (.bool (decide (L = M))) ∧ ∃ n, w' = w.drewN n := by
  have HA := hid0 ha
  have HB := hid0 hb
  clear ha hb
  by_cases hlen : L.length = M.length
  · have hlI : (L.length : Int) = (M.length : Int) := by omega
    have HL := hid0 hlen
    clear hlen
    go_enter Tryd.func40, Tryd.ntmps40
    go_wp2
    go_loopw [5] (fun i wr => ∃ k : Nat, k ≤ L.length ∧ i = .int .i64 (k : Int) ∧ (∃ n, wr = w.drewN n) ∧ Hid (∀ j, j < k → L[j]? = M[j]?)) (fun i _ => L.length - (intOf i).toNat)
    case atStart => exact ⟨0, Nat.zero_le _, rfl, ⟨0, rfl⟩, hid0 (fun j h => absurd h (Nat.not_lt_zero _))⟩
    case round =>
      obtain ⟨k, hk, rfl, ⟨nd, rfl⟩, HE⟩ := hrel
      by_cases hlt : k < L.length
      · have hltM : k < M.length := by have := HL.out; omega
        obtain ⟨b1, o1, rfl, _, d1⟩ := HA.out.at' k hlt
        obtain ⟨b2, o2, rfl, _, d2⟩ := HB.out.at' k hltM
        have hkI : (k : Int) < (L.length : Int) := by omega
        have hkM : (k : Int) < (M.length : Int) := by omega
        have hkI0 : (0 : Int) ≤ (k : Int) := by omega
        have HG1 : Hid (L[k]? = some L[k]) := hid0 (List.getElem?_eq_getElem hlt)
        have HG2 : Hid (M[k]? = some M[k]) := hid0 (List.getElem?_eq_getElem hltM)
        generalize L[k] = s at *
        generalize M[k] = u at *
        by_cases hsu : s = u
        · subst hsu
          have hself : (s == s) = true := by simp
          have hself2 : (s != s) = false := by simp
          have HE2 : Hid (∀ j, j < k + 1 → L[j]? = M[j]?) := hid0 (fun j hj => by
            by_cases e : j = k
            · subst e; rw [HG1.out, HG2.out]
            · exact HE.out j (by omega))
          clear HE HG1 HG2
          go_wp2
          go_quiet ((fail))
          go_wp2
          go_roundw
          case rel => exact ⟨k + 1, by omega, by go_num, ⟨_, rfl⟩, HE2⟩
          case measure => simp [intOf]; omega
        · have hne : (s == u) = false := by simpa using hsu
          have hne2 : (s != u) = true := by simpa using hsu
          have HV : Hid (decide (L = M) = false) := hid0 (decide_eq_false (fun e => by
            subst e
            rw [HG1.out] at HG2
            exact hsu (by have := HG2.out; cases this; rfl)))
          clear HE HG1 HG2
          go_wp2
          go_quiet ((fail))
          go_wp2
          go_ret
          exact ⟨by rw [HV.out]; rfl, _, World.drewN_drewN _ _ _⟩
      · have hkI : ¬ (k : Int) < (L.length : Int) := by omega
        have HV : Hid (decide (L = M) = true) := hid0 (decide_eq_true (eq_upto HL.out (fun j hj => HE.out j (by omega))))
        clear HE
        go_wp2
        go_ret
        exact ⟨by rw [HV.out]; rfl, nd, rfl⟩
  · have hlI : ¬ (L.length : Int) = (M.length : Int) := by omega
    have HV : Hid (decide (L = M) = false) := hid0 (decide_eq_false (fun e => hlen (by rw [e])))
    clear hlen
    go_enter Tryd.func40, Tryd.ntmps40
    go_wp2
    go_ret
    exact ⟨by rw [HV.out]; rfl, 0, rfl⟩
/-- A list whose first so many places, and last so many, are turned. -/
structure RevI (xs ys : List Int) (i : Nat) : Prop where
  len : ys.length = xs.length
  at' : ∀ k, k < xs.length → ys[k]? = if k < i ∨ xs.length - i ≤ k then xs[xs.length - 1 - k]? else xs[k]?
theorem RevI.first (xs : List Int) : RevI xs xs 0 := ⟨rfl, fun k hk => by rw [if_neg (by omega)]⟩
theorem RevI.step {xs ys : List Int} {i j : Nat} (h : RevI xs ys i) (hj : j = xs.length - 1 - i) (hij : i < j) (hi' : i < ys.length) (hj' : j < ys.length) : RevI xs ((ys.set i ys[j]).set j ys[i]) (i + 1) := by
  have hl := h.len
  have ai := h.at' i (by omega)
  have aj := h.at' j (by omega)
  rw [if_neg (by omega)] at ai aj
  refine ⟨by simp [hl], fun k hk => ?_⟩
  rw [List.getElem?_set]
  by_cases hkj : j = k
  · subst hkj
    rw [if_pos rfl, if_pos (by simp; omega), if_pos (by omega), ← List.getElem?_eq_getElem hi', ai]
    congr 1
    omega
  · rw [if_neg hkj, List.getElem?_set]
    by_cases hki : i = k
    · subst hki
      rw [if_pos rfl, if_pos (by omega), if_pos (by omega), ← List.getElem?_eq_getElem hj', aj]
      congr 1
    · rw [if_neg hki, h.at' k hk]
      by_cases hc : k < i ∨ xs.length - i ≤ k
      · rw [if_pos hc, if_pos (by omega)]
      · rw [if_neg hc, if_neg (by omega)]
theorem RevI.last {xs ys : List Int} {i : Nat} (h : RevI xs ys i) (hi : xs.length ≤ 2 * i + 1) : ys = xs.reverse := by
  apply List.ext_getElem?
  intro k
  rcases Nat.lt_or_ge k xs.length with hk | hk
  · rw [h.at' k hk, List.getElem?_reverse hk]
    by_cases hc : k < i ∨ xs.length - i ≤ k
    · rw [if_pos hc]
    · rw [if_neg hc]
      congr 1
      omega
  · rw [List.getElem?_eq_none (by rw [h.len]; exact hk), List.getElem?_eq_none (by simpa using hk)]
theorem own_two {w : World} {m g n c : Nat} {ys : List Int} (h : w.ownsRow m 3 1 (.slice (some ⟨g, 0, none⟩) n c) n (ys.map (Value.int .i64))) (i j : Nat) (x y : Int) : ((w.setCell ⟨g, i, none⟩ (.int .i64 x)).setCell ⟨g, j, none⟩ (.int .i64 y)).ownsRow m 3 1 (.slice (some ⟨g, 0, none⟩) n c) n (((ys.set i x).set j y).map (Value.int .i64)) := by
  have h1 := World.ownsRow.stored h i (.int .i64 x)
  have h2 := World.ownsRow.stored h1.1 j (.int .i64 y)
  have e : ((ys.map (Value.int .i64)).set i (.int .i64 x)).set j (.int .i64 y) = ((ys.set i x).set j y).map (Value.int .i64) := by rw [List.map_set, List.map_set]
  rw [← e]
  exact h2.1
end Go.Proofs.YtjmmckkiicefhaaDoor
namespace Go.Proofs.YtjmmckkiicefhaaDoor
open Go.RowKit Go.Shelf
theorem Sents.e1 {w : World} {A : Nat → Addr} (h : Sents w A) : E1 w (A 0) := ⟨h.c0⟩
set_option maxRecDepth 10000 in
set_option maxHeartbeats 1600000 in
theorem of_no (x : Addr) (st sy : Int) (N O : List (List Int)) (aN aO : Option Addr) (cN cO : Nat) (w : World) (hmay : mayF st N O sy = false) (hN : N.length ≤ 17592186043904) (hNr : ∀ r ∈ N, r.length ≤ 17592186043904) (hOr : ∀ r ∈ O, r.length ≤ 17592186043904) (ha : RwA w aN N) (hb : RwA w aO O) (he : E1 w x) :
    Calls Tryd.prog 7 #[.agg #[.int .i64 st, .slice aN N.length cN, .slice aO O.length cO], .int .i64 sy] w fun e w' => e = .returned (.tuple #[.agg #[.int .i64 0, .slice none 0 0, .slice none 0 0], .iface 112 (.pointer (some x))]) ∧ Below w.heap.size w w' := by
  have HMb : Hid (∀ V, Below w.heap.size w V → Calls Tryd.prog 17 #[.agg #[.int .i64 st, .slice aN N.length cN, .slice aO O.length cO], .int .i64 sy] V fun e w' => e = .returned (.bool false) ∧ Below V.heap.size V w') := hid0 (fun V hV => by
    have h := mayBe_any st sy N O aN aO cN cO V hN hNr hOr (ha.past hV) (hb.past hV)
    rw [hmay] at h
    exact h)
  obtain ⟨w0, hw0⟩ : ∃ w0, w0 = w.alloc (.cells #[.int .i64 st, .slice aN N.length cN, .slice aO O.length cO] 24) := ⟨_, rfl⟩
  obtain ⟨w1, hw1⟩ : ∃ w1, w1 = w0.alloc (.cells #[.int .i64 0, .slice none 0 0, .slice none 0 0] 24) := ⟨_, rfl⟩
  have s0' : w0.heap.size = w.heap.size + 1 := by rw [hw0]; simp
  have m0 : w0.heap[w.heap.size]? = some (.cells #[.int .i64 st, .slice aN N.length cN, .slice aO O.length cO] 24 (0, 0)) := by rw [hw0]; exact heap_alloc_new _ _
  have m1 : w1.heap[w.heap.size]? = some (.cells #[.int .i64 st, .slice aN N.length cN, .slice aO O.length cO] 24 (0, 0)) := by rw [hw1, Below.heap_alloc _ _ _ (by omega)]; exact m0
  have r1 : w1.heap[w0.heap.size]? = some (.cells #[.int .i64 0, .slice none 0 0, .slice none 0 0] 24 (0, 0)) := by rw [hw1]; exact heap_alloc_new _ _
  have hB1 : Below w.heap.size w w1 := by
    rw [hw1, hw0] at *
    exact ((Below.refl _ _).alloc (Nat.le_refl _) _).alloc (by omega) _
  have x0 : w1.cell? ⟨w.heap.size, 0, none⟩ = some (.int .i64 st) := by rw [cell_of_row _ _ _ _ _ _ m1]; rfl
  have x1 : w1.cell? ⟨w.heap.size, 1, none⟩ = some (.slice aN N.length cN) := by rw [cell_of_row _ _ _ _ _ _ m1]; rfl
  have x2 : w1.cell? ⟨w.heap.size, 2, none⟩ = some (.slice aO O.length cO) := by rw [cell_of_row _ _ _ _ _ _ m1]; rfl
  have HB1 := hid0 hB1
  have q0s := hid0 s0'
  have HR1 := hid0 r1
  have HE := hid0 he
  have q0 := hw0.symm
  have q1 := hw1.symm
  clear hw0 hw1 m0 m1 r1 hB1 ha hb hmay s0' he hNr hOr
  go_enter Tryd.func7, Tryd.ntmps7
  go_upto_region 2 with (go_at_call 17; go_loud ((refine (HMb.out _ HB1.out).mono ?_; rintro e w2 ⟨rfl, hb2⟩; have HB2' := hid0 hb2; clear hb2)))
  have HB2 : Hid (Below w.heap.size w w2) := hid0 (HB1.out.trans ⟨HB2'.out.os, HB2'.out.tape, HB2'.out.output, HB2'.out.size, fun k hk => HB2'.out.block k (by have := HB1.out.size; omega)⟩)
  have HR2 := hid0 ((HB2'.out.block _ (Array.getElem?_eq_some_iff.1 HR1.out).1).trans HR1.out)
  have HFin : Hid (∀ U : World, Below w2.heap.size w2 U → ∃ v1 v2 v3, LaidM U v1 v2 v3 w0.heap.size (.slice none 0 0) (.slice none 0 0) ∧ U.cell? ⟨0, 0, none⟩ = some (.iface 112 (.pointer (some x))) ∧ v1.cell? ⟨0, 0, none⟩ = some (.iface 112 (.pointer (some x))) ∧ v2.cell? ⟨0, 0, none⟩ = some (.iface 112 (.pointer (some x))) ∧ v3.cell? ⟨0, 0, none⟩ = some (.iface 112 (.pointer (some x))) ∧ Below w.heap.size w v3) := hid0 (fun U hU => by
    have hr := (hU.block _ (Array.getElem?_eq_some_iff.1 HR2.out).1).trans HR2.out
    obtain ⟨v1, v2, v3, hl⟩ := laidM (.slice none 0 0) (.slice none 0 0) hr
    have hBU : Below w.heap.size w U := HB2.out.trans ⟨hU.os, hU.tape, hU.output, hU.size, fun k hk => hU.block k (by have := HB2.out.size; omega)⟩
    have hc := (HE.out.below hBU).c
    have hne : ∀ (V : World) (o : Nat) (u : Value), V.cell? ⟨0, 0, none⟩ = some (.iface 112 (.pointer (some x))) → (V.setCell ⟨w0.heap.size, o, none⟩ u).cell? ⟨0, 0, none⟩ = some (.iface 112 (.pointer (some x))) := fun V o u h => by
      refine ((Only.setCell V w0.heap.size o u).cell (World.block_lt_of_cell? V _ h) (fun e => ?_)).trans h
      have := World.block_lt_of_cell? w _ HE.out.c
      have := q0s.out
      simp only at e
      omega
    have c1 := hne U 0 (.int .i64 0) hc
    rw [hl.g1] at c1
    have c2 := hne v1 1 (.slice none 0 0) c1
    rw [hl.g2] at c2
    have c3 := hne v2 2 (.slice none 0 0) c2
    rw [hl.g3] at c3
    exact ⟨v1, v2, v3, hl, hc, c1, c2, c3, hBU.trans (hl.only.below hBU.size (fun k hk => by rw [hk]; have := q0s.out; omega))⟩)
  clear HB2' HR1 HB1 q0 q1 x0 x1 x2 HMb
  obtain ⟨v1, v2, v3, hl, e0, e1, e2, e3, hbl⟩ := HFin.out w2.drew (below_drew' (Below.refl _ _) 1)
  have g1 := hl.g1
  have g2 := hl.g2
  have g3 := hl.g3
  obtain ⟨z0, z1, z2⟩ := hl.z
  have a1 := hl.a1
  have a2 := hl.a2
  have f0 := hl.f0
  have f1 := hl.f1
  have f2 := hl.f2
  obtain ⟨b0, b1, b2⟩ := hl.b
  have HBL := hid0 hbl
  clear hl hbl
  go_region
  all_goals go_wp2
  all_goals (try simp only [Exit.inBlock, Exit.then])
  all_goals refine bodyPost_ret (by simp [results, Tryd.results7, go_sem, b0, b1, b2]; try rfl) rfl ?_
  all_goals exact ⟨rfl, HBL.out⟩
end Go.Proofs.YtjmmckkiicefhaaDoor
namespace Go.Proofs.YtjmmckkiicefhaaDoor
open Go.RowKit Go.Shelf
theorem eq_uptoL {L M : List (List Int)} (hl : L.length = M.length) (h : ∀ k, k < L.length → L[k]? = M[k]?) : L = M := by
  apply List.ext_getElem?
  intro k
  rcases Nat.lt_or_ge k L.length with hk | hk
  · exact h k hk
  · rw [List.getElem?_eq_none hk, List.getElem?_eq_none (by omega)]
theorem IA.drewN {w : World} {a : Option Addr} {L : List Int} (h : IA w a L) (n : Nat) : IA (w.drewN n) a L := ⟨h.at'⟩
set_option maxRecDepth 10000 in
set_option maxHeartbeats 800000 in
theorem equalFunc_any (L M : List (List Int)) (a b : Option Addr) (ca cb : Nat) (w : World) (hl : L.length ≤ 1000000000) (hr : ∀ r ∈ L, r.length ≤ 1000000000) (ha : RwA w a L) (hb : RwA w b M) :
    Calls Tryd.prog 41 #[.slice a L.length ca, .slice b M.length cb, .func (.func 42) #[] #[]] w fun e w' => e = .returned (.bool (decide (L = M))) ∧ ∃ n, w' = w.drewN n := by
  have HA := hid0 ha
  have HB := hid0 hb
  have HR := hid0 hr
  clear ha hb hr
  by_cases hlen : L.length = M.length
  · have hlI : (L.length : Int) = (M.length : Int) := by omega
    have HL := hid0 hlen
    clear hlen
    go_enter Tryd.func41, Tryd.ntmps41
    go_wp2
    go_loopw [17] (fun i wr => ∃ k : Nat, k ≤ L.length ∧ i = .int .i64 (k : Int) ∧ (∃ n, wr = w.drewN n) ∧ Hid (∀ j, j < k → L[j]? = M[j]?)) (fun i _ => L.length - (intOf i).toNat)
    case atStart => exact ⟨0, Nat.zero_le _, rfl, ⟨0, rfl⟩, hid0 (fun j h => absurd h (Nat.not_lt_zero _))⟩
    case round =>
      obtain ⟨k, hk, rfl, ⟨nd, rfl⟩, HE⟩ := hrel
      by_cases hlt : k < L.length
      · have hltM : k < M.length := by have := HL.out; omega
        obtain ⟨b1, o1, rfl, _, a1, c1, d1, i1⟩ := HA.out.at' k hlt
        obtain ⟨b2, o2, rfl, _, a2, c2, d2, i2⟩ := HB.out.at' k hltM
        have hkI : (k : Int) < (L.length : Int) := by omega
        have hkM : (k : Int) < (M.length : Int) := by omega
        have hkI0 : (0 : Int) ≤ (k : Int) := by omega
        have HG1 : Hid (L[k]? = some L[k]) := hid0 (List.getElem?_eq_getElem hlt)
        have HG2 : Hid (M[k]? = some M[k]) := hid0 (List.getElem?_eq_getElem hltM)
        have HS := hid0 (equal_any L[k] M[k] a1 a2 c1 c2 (w.drewN nd) (by have := HR.out _ (List.getElem_mem hlt); omega) (i1.drewN nd) (i2.drewN nd))
        clear i1 i2
        generalize L[k] = s at *
        generalize M[k] = u at *
        by_cases hsu : s = u
        · have HE2 : Hid (∀ j, j < k + 1 → L[j]? = M[j]?) := hid0 (fun j hj => by
            by_cases e : j = k
            · subst e; rw [HG1.out, HG2.out, hsu]
            · exact HE.out j (by omega))
          rw [decide_eq_true hsu] at HS
          have HSU := hid0 hsu
          clear HE HG1 HG2 hsu
          go_wp2_with (go_at_call 42; refine HS.out.mono ?_; rintro e w1 ⟨rfl, nq, hw⟩; rw [World.drewN_drewN] at hw; subst hw)
          go_roundw
          case rel => exact ⟨k + 1, by omega, by go_num, ⟨_, rfl⟩, HE2⟩
          case measure => simp [intOf]; omega
        · have HV : Hid (decide (L = M) = false) := hid0 (decide_eq_false (fun e => by
            subst e
            rw [HG1.out] at HG2
            exact hsu (by have := HG2.out; cases this; rfl)))
          rw [decide_eq_false hsu] at HS
          clear HE HG1 HG2 hsu
          go_wp2_with (go_at_call 42; refine HS.out.mono ?_; rintro e w1 ⟨rfl, nq, hw⟩; rw [World.drewN_drewN] at hw; subst hw)
          go_ret
          exact ⟨by rw [HV.out]; rfl, _, rfl⟩
      · have hkI : ¬ (k : Int) < (L.length : Int) := by omega
        have HV : Hid (decide (L = M) = true) := hid0 (decide_eq_true (eq_uptoL HL.out (fun j hj => HE.out j (by omega))))
        clear HE
        go_wp2
        go_ret
        exact ⟨by rw [HV.out]; rfl, nd, rfl⟩
  · have hlI : ¬ (L.length : Int) = (M.length : Int) := by omega
    have HV : Hid (decide (L = M) = false) := hid0 (decide_eq_false (fun e => hlen (by rw [e])))
    clear hlen
    go_enter Tryd.func41, Tryd.ntmps41
    go_wp2
    go_ret
    exact ⟨by rw [HV.out]; rfl, 0, rfl⟩
set_option maxRecDepth 10000 in
set_option maxHeartbeats 800000 in
theorem sameRowsM_any (L M : List (List Int)) (a b : Option Addr) (ca cb : Nat) (w : World) (hl : L.length ≤ 1000000000) (hr : ∀ r ∈ L, r.length ≤ 1000000000) (ha : RwA w a L) (hb : RwA w b M) :
    Calls Tryd.prog 23 #[.slice a L.length ca, .slice b M.length cb] w fun e w' => e = .returned (.bool (decide (L = M))) ∧ ∃ n, w' = w.drewN n := by
  have HS := hid0 (equalFunc_any L M a b ca cb w hl hr ha hb)
  clear ha hb hr hl
  generalize decide (L = M) = t at *
  go_enter Tryd.func23, Tryd.ntmps23
  go_wp2_with (go_at_call 41; refine HS.out.mono ?_; rintro e w1 ⟨rfl, nq, hw⟩; subst hw)
  go_ret
  exact ⟨rfl, _, rfl⟩
end Go.Proofs.YtjmmckkiicefhaaDoor
namespace Go.Proofs.YtjmmckkiicefhaaDoor
theorem Lst.self {m : Nat} {N O : List (List Int)} (h : Red m N O) : Lst m 0 N O N O := ⟨h, fun _ _ => rfl, Nat.le_refl _⟩
/-- What Is says. -/
noncomputable def isB (st : Int) (N O : List (List Int)) (sy : Int) : Bool := @decide (st = 0 ∧ ∃ m : Nat, sy = (m : Int) ∧ Red m N O) (Classical.propDecidable _)
theorem isB_no {st sy : Int} {N O : List (List Int)} (h : mayF st N O sy = false) : isB st N O sy = false := by
  unfold isB
  refine @decide_eq_false _ (Classical.propDecidable _) ?_
  rintro ⟨rfl, m, rfl, hr⟩
  rw [hr.may] at h
  exact Bool.noConfusion h
theorem isB_yes {m : Nat} {N O : List (List Int)} (h : Red m N O) : isB 0 N O (m : Int) = true := by
  unfold isB
  exact @decide_eq_true _ (Classical.propDecidable _) ⟨rfl, m, rfl, h⟩
theorem isB_lst {m : Nat} {st : Int} {N O N' O' : List (List Int)} (h : Lst m st N O N' O') : isB st N O (m : Int) = (decide (st = 0) && decide (N = N') && decide (O = O')) := by
  by_cases h1 : st = 0
  · subst h1
    by_cases h2 : N = N' ∧ O = O'
    · obtain ⟨rfl, rfl⟩ := h2
      rw [isB_yes h.red]
      simp
    · have h3 : isB 0 N O (m : Int) = false := by
        unfold isB
        refine @decide_eq_false _ (Classical.propDecidable _) ?_
        rintro ⟨_, m', hm', hr⟩
        obtain rfl : m = m' := by omega
        exact h2 ((Lst.self hr).uniq h)
      rw [h3]
      by_cases h4 : N = N'
      · have h5 : ¬ O = O' := fun e => h2 ⟨h4, e⟩
        simp [h5]
      · simp [h4]
  · have h3 : isB st N O (m : Int) = false := by
      unfold isB
      refine @decide_eq_false _ (Classical.propDecidable _) ?_
      rintro ⟨e, _⟩
      exact h1 e
    rw [h3]
    simp [h1]
/-- Each state of a least machine is met by some word. -/
theorem Red.word {m : Nat} {N O : List (List Int)} (h : Red m N O) : ∀ (s : Nat), s < N.length → ∃ u, okW m u ∧ runW (nxF N) 0 u = s := by
  intro s
  induction s using Nat.strongRecOn with
  | _ s ih =>
    intro hs
    rcases Nat.eq_zero_or_pos s with rfl | hp
    · exact ⟨[], okW.nil m, rfl⟩
    · have h1 := h.bfs.row s hs
      obtain ⟨j, hj, e⟩ := h.bfs.hit (s * m) (Nat.mul_le_mul_right m (by omega)) s hp h1
      have hm0 : 0 < m := by
        rcases Nat.eq_zero_or_pos m with e0 | e0
        · rw [e0, Nat.mul_zero] at hj; omega
        · exact e0
      have hq : j / m < s := (Nat.div_lt_iff_lt_mul hm0).2 hj
      obtain ⟨u, hu, hr⟩ := ih (j / m) hq (by omega)
      refine ⟨u ++ [j % m], fun c hc => ?_, ?_⟩
      · rcases List.mem_append.1 hc with h2 | h2
        · exact hu c h2
        · rw [List.mem_singleton] at h2
          rw [h2]
          exact Nat.mod_lt _ hm0
      · rw [runW_append, hr]
        exact e
/-- What it tells is told by the machine. -/
theorem Lst.out {m : Nat} {st : Int} {N O N' O' : List (List Int)} (hm : May st N O m) (h : Lst m st N O N' O') : ∀ r ∈ O', r ∈ O := by
  intro r hr
  obtain ⟨s, hs, rfl⟩ := List.getElem_of_mem hr
  have hs2 : s < N'.length := by have := h.red.may'.out; omega
  obtain ⟨u, hu, hru⟩ := h.red.word s hs2
  have h1 := h.lang u hu
  rw [hru] at h1
  have h2 : runW (nxF N) st.toNat u < N.length := runW_in (fun x c hx hc => (hm.next hx hc).1) u st.toNat (by have := hm.start; omega) hu
  have h3 : runW (nxF N) st.toNat u < O.length := by have := hm.out; omega
  have e1 : outF O' s = O'[s] := by unfold outF; rw [List.getD_eq_getElem?_getD, List.getElem?_eq_getElem hs]; rfl
  have e2 : outF O (runW (nxF N) st.toNat u) = O[runW (nxF N) st.toNat u] := by unfold outF; rw [List.getD_eq_getElem?_getD, List.getElem?_eq_getElem h3]; rfl
  rw [← e1, h1, e2]
  exact List.getElem_mem _
/-- The machine that known looks at. -/
def kN : List (List Int) := [[1, 1], [0, 2], [2, 2]]
def kO : List (List Int) := [[], [], [5]]
theorem known_red : Red 2 kN kO := by
  refine ⟨by decide, ⟨by decide, by decide⟩, ?_⟩
  have key : ∀ p, p < 3 → ∀ q, q < 3 → p ≠ q → outF kO p ≠ outF kO q ∨ outF kO (nxF kN p 1) ≠ outF kO (nxF kN q 1) := by decide
  intro p q hp hq hs
  apply Classical.byContradiction
  intro hne
  rcases key p hp q hq hne with h | h
  · exact h hs.nil
  · exact h (hs [1] (fun c hc => by rw [List.mem_singleton] at hc; omega))
/-- A machine is small. -/
structure SmlO (N O : List (List Int)) : Prop where
  n : N.length ≤ 2200000
  nr : ∀ r ∈ N, r.length ≤ 2200000
  or : ∀ r ∈ O, r.length ≤ 2200000
  oz : ∀ r ∈ O, ∀ z ∈ r, z < 9223372036854775808
  nm : ∀ m : Nat, (∀ r ∈ N, r.length = m) → N.length * m ≤ 2200000
theorem upF_nn : ∀ {l : List Int} {lo : Int}, upF lo l = true → ∀ z ∈ l, lo ≤ z
  | [], _, _, _, h => by cases h
  | x :: l, lo, h, z, hz => by
    unfold upF at h
    rw [Bool.and_eq_true, decide_eq_true_eq] at h
    rcases List.mem_cons.1 hz with rfl | hz
    · exact h.1
    · have := upF_nn h.2 z hz; omega
theorem SmlO.facts {st : Int} {N O : List (List Int)} {m : Nat} (h : SmlO N O) (hmay : mayF st N O (m : Int) = true) : N.length * m ≤ 2200000 ∧ m ≤ 2200000 ∧ (∀ r ∈ O, ∀ z ∈ r, 0 ≤ z ∧ z < 9223372036854775808) := by
  obtain ⟨n', hn', hm⟩ := mayF_may hmay
  obtain rfl : m = n' := by omega
  have h0 : 0 < N.length := by have := hm.start; omega
  refine ⟨h.nm m hm.row, ?_, fun r hr z hz => ⟨upF_nn (upF_rise hmay r hr) z hz, h.oz r hr z hz⟩⟩
  have h1 := hm.row _ (List.getElem_mem h0)
  have h2 := h.nr _ (List.getElem_mem h0)
  omega
/-- So is its least one. -/
theorem Lst.sml {m : Nat} {st : Int} {N O N' O' : List (List Int)} (hs : SmlO N O) (hmay : mayF st N O (m : Int) = true) (h : Lst m st N O N' O') : SmlO N' O' := by
  obtain ⟨h1, h2, h3⟩ := hs.facts hmay
  obtain ⟨n', hn', hm⟩ := mayF_may hmay
  obtain rfl : m = n' := by omega
  have hl := h.less
  have hr := h.red.may'.row
  refine ⟨by have := hs.n; omega, fun r hr' => by rw [hr r hr']; exact h2, fun r hr' => hs.or r (h.out hm r hr'), fun r hr' => hs.oz r (h.out hm r hr'), fun k hk => ?_⟩
  have h0 : 0 < N'.length := h.red.pos
  have e1 := hk _ (List.getElem_mem h0)
  have e2 := hr _ (List.getElem_mem h0)
  obtain rfl : k = m := by omega
  exact Nat.le_trans (Nat.mul_le_mul_right k hl) h1
end Go.Proofs.YtjmmckkiicefhaaDoor
namespace Go.Proofs.YtjmmckkiicefhaaDoor
open Go.RowKit Go.Shelf
/-- Of, where the machine may be one and is small. -/
theorem of_sml (s0 m : Nat) (N O : List (List Int)) (aN aO : Option Addr) (cN cO : Nat) (w : World) (hmay : mayF (s0 : Int) N O (m : Int) = true) (hs : SmlO N O) (ha : RwA w aN N) (hb : RwA w aO O) :
    Calls Tryd.prog 7 #[.agg #[.int .i64 (s0 : Int), .slice aN N.length cN, .slice aO O.length cO], .int .i64 (m : Int)] w fun e w' => ∃ vN vO, e = .returned (.tuple #[.agg #[.int .i64 0, vN, vO], .nilIface]) ∧ OfR w w' m (s0 : Int) N O vN vO ∧ Below w.heap.size w w' := by
  obtain ⟨h1, h2, h3⟩ := hs.facts hmay
  exact of_yes s0 m N O aN aO cN cO w hmay hs.n h1 h2 hs.or h3 ha hb
theorem of_bad (x : Addr) (st sy : Int) (N O : List (List Int)) (aN aO : Option Addr) (cN cO : Nat) (w : World) (hmay : mayF st N O sy = false) (hs : SmlO N O) (ha : RwA w aN N) (hb : RwA w aO O) (he : E1 w x) :
    Calls Tryd.prog 7 #[.agg #[.int .i64 st, .slice aN N.length cN, .slice aO O.length cO], .int .i64 sy] w fun e w' => e = .returned (.tuple #[.agg #[.int .i64 0, .slice none 0 0, .slice none 0 0], .iface 112 (.pointer (some x))]) ∧ Below w.heap.size w w' :=
  of_no x st sy N O aN aO cN cO w hmay (by have := hs.n; omega) (fun r hr => by have := hs.nr r hr; omega) (fun r hr => by have := hs.or r hr; omega) ha hb he
/-- What Of answers, as lists in memory. -/
theorem OfR.rows {w w' : World} {m : Nat} {st : Int} {N O : List (List Int)} {vN vO : Value} (h : OfR w w' m st N O vN vO) : ∃ N' O' aA cA aB cB, vN = .slice aA N'.length cA ∧ vO = .slice aB O'.length cB ∧ RwA w' aA N' ∧ RwA w' aB O' ∧ Lst m st N O N' O' := by
  obtain ⟨pN, pO, h1, h2, _, _, h3⟩ := h
  obtain ⟨aA, cA, eA, qA⟩ := h1.rwq
  obtain ⟨aB, cB, eB, qB⟩ := h2.rwq
  exact ⟨_, _, aA, cA, aB, cB, eA, eB, qA.rwa, qB.rwa, h3⟩
/-- A machine in a box of its own. -/
structure MBox (w : World) (X : Nat) (s : Int) (vN vO : Value) : Prop where
  r : w.heap[X]? = some (.cells #[.int .i64 s, vN, vO] 24 (0, 0))
theorem MBox.c {w : World} {X : Nat} {s : Int} {vN vO : Value} (h : MBox w X s vN vO) : w.cell? ⟨X, 0, none⟩ = some (.int .i64 s) ∧ w.cell? ⟨X, 1, none⟩ = some vN ∧ w.cell? ⟨X, 2, none⟩ = some vO := by
  refine ⟨?_, ?_, ?_⟩ <;> (rw [cell_of_row _ _ _ _ _ _ h.r]; rfl)
theorem MBox.past {w w' : World} {X : Nat} {s : Int} {vN vO : Value} (h : MBox w X s vN vO) (hb : Below w.heap.size w w') : MBox w' X s vN vO := ⟨(hb.block _ (Array.getElem?_eq_some_iff.1 h.r).1).trans h.r⟩
theorem MBox.new (w : World) (s : Int) (vN vO : Value) : MBox (w.alloc (.cells #[.int .i64 s, vN, vO] 24)) w.heap.size s vN vO := ⟨heap_alloc_new w _⟩
theorem below_alloc (w : World) (o : Obj) : Below w.heap.size w (w.alloc o) := (Below.refl _ _).alloc (Nat.le_refl _) _
set_option maxRecDepth 10000 in
set_option maxHeartbeats 1600000 in
theorem is_any (x : Addr) (st sy : Int) (N O : List (List Int)) (aN aO : Option Addr) (cN cO : Nat) (w : World) (hs : SmlO N O) (ha : RwA w aN N) (hb : RwA w aO O) (he : E1 w x) :
    Calls Tryd.prog 12 #[.agg #[.int .i64 st, .slice aN N.length cN, .slice aO O.length cO], .int .i64 sy] w fun e w' => e = .returned (.bool (isB st N O sy)) ∧ Below w.heap.size w w' := by
  obtain ⟨w0, hw0⟩ : ∃ w0, w0 = w.alloc (.cells #[.int .i64 st, .slice aN N.length cN, .slice aO O.length cO] 24) := ⟨_, rfl⟩
  have hB0 : Below w.heap.size w w0 := by rw [hw0]; exact below_alloc _ _
  have hX0 : MBox w0 w.heap.size st (.slice aN N.length cN) (.slice aO O.length cO) := by rw [hw0]; exact MBox.new _ _ _ _
  obtain ⟨x0, x1, x2⟩ := hX0.c
  have HX0 := hid0 hX0
  have HB0 := hid0 hB0
  have HA := hid0 (ha.past hB0)
  have HO := hid0 (hb.past hB0)
  cases hmay : mayF st N O sy with
  | false =>
    have HV := hid0 (isB_no hmay)
    have HOf := hid0 (of_bad x st sy N O aN aO cN cO w0 hmay hs HA.out HO.out (he.below hB0))
    have hfold := hw0.symm
    clear hw0 ha hb he hB0 hX0 hmay hs
    go_enter Tryd.func12, Tryd.ntmps12
    go_wp2_with (go_at_call 7; go_loud ((refine HOf.out.mono ?_; rintro e w1 ⟨rfl, hb1⟩; have HB1 := hid0 (Below.later HB0.out hb1); clear hb1)))
    go_ret
    exact ⟨by rw [HV.out]; rfl, HB1.out.alloc HB1.out.size _⟩
  | true =>
    obtain ⟨m, hm, hmy⟩ := mayF_may hmay
    subst hm
    obtain ⟨s0, rfl⟩ : ∃ s0 : Nat, st = (s0 : Int) := ⟨st.toNat, by have := hmy.start; omega⟩
    have HOf := hid0 (of_sml s0 m N O aN aO cN cO w0 hmay hs HA.out HO.out)
    have HSm := hid0 hs
    have HOl := hid0 hmy.out
    have hfold := hw0.symm
    clear hw0 ha hb he hB0 hX0 hmay hs hmy
    go_enter Tryd.func12, Tryd.ntmps12
    go_upto_region 2 with (go_at_call 7; go_loud ((refine HOf.out.mono ?_; rintro e w1 ⟨vN, vO, rfl, hof, hb1⟩; obtain ⟨N', O', aA, cA, aB, cB, rfl, rfl, qA, qB, hl⟩ := hof.rows; clear hof; have HB1' := hid0 hb1; have HQ := hid0 (And.intro qA (And.intro qB hl)); clear qA qB hl hb1)))
    obtain ⟨w2, hw2⟩ : ∃ w2, w2 = w1.alloc (.cells #[.int .i64 0, .slice aA N'.length cA, .slice aB O'.length cB] 24) := ⟨_, rfl⟩
    obtain ⟨qA, qB, hl⟩ := HQ.out
    have hB2 : Below w1.heap.size w1 w2 := by rw [hw2]; exact below_alloc _ _
    have hX2 : MBox w2 w1.heap.size 0 (.slice aA N'.length cA) (.slice aB O'.length cB) := by rw [hw2]; exact MBox.new _ _ _ _
    have hB02 : Below w0.heap.size w0 w2 := Below.later HB1'.out hB2
    obtain ⟨z0, z1, z2⟩ := hX2.c
    obtain ⟨y0, y1, y2⟩ := (HX0.out.past hB02).c
    have HBF : Hid (Below w.heap.size w w2) := hid0 (Below.later HB0.out hB02)
    have HS1 := hid0 (sameRowsM_any N N' aN aA cN cA w2 (by have := HSm.out.n; omega) (fun r hr => by have := HSm.out.nr r hr; omega) (HA.out.past hB02) (qA.past hB2))
    have HS2 : Hid (∀ q, Calls Tryd.prog 23 #[.slice aO O.length cO, .slice aB O'.length cB] (w2.drewN q) fun e w' => e = .returned (.bool (decide (O = O'))) ∧ ∃ n, w' = (w2.drewN q).drewN n) := hid0 (fun q => by
      have hq : Below w2.heap.size w2 (w2.drewN q) := below_drew' (Below.refl _ _) q
      exact sameRowsM_any O O' aO aB cO cB (w2.drewN q) (by have := HOl.out; have := HSm.out.n; omega) (fun r hr => by have := HSm.out.or r hr; omega) ((HO.out.past hB02).past hq) ((qB.past hB2).past hq))
    have HV := hid0 (isB_lst hl)
    have q2 := hw2.symm
    clear hw2 hX2 hB02 hB2 hl qA qB HQ x0 x1 x2 hfold HX0 HOf
    by_cases h1 : (s0 : Int) = 0
    · have hE0 : ((s0 : Int) == 0) = true := by simpa using h1
      rw [decide_eq_true h1, Bool.true_and] at HV
      by_cases h2 : N = N'
      · rw [decide_eq_true h2] at HV HS1
        rw [Bool.true_and] at HV
        clear h1 h2
        generalize decide (O = O') = t at *
        go_wp2_with (first | (go_at_call 23; refine HS1.out.mono ?_; rintro e w3 ⟨rfl, n3, hw3⟩; subst hw3; clear HS1) | (go_at_call 23; refine (HS2.out n3).mono ?_; rintro e w4 ⟨rfl, n4, hw4⟩; rw [World.drewN_drewN] at hw4; subst hw4))
        go_ret
        exact ⟨by rw [HV.out]; rfl, below_drew' HBF.out _⟩
      · rw [decide_eq_false h2] at HV HS1
        rw [Bool.false_and] at HV
        clear h1 h2
        go_wp2_with (go_at_call 23; refine HS1.out.mono ?_; rintro e w3 ⟨rfl, n3, hw3⟩; subst hw3; clear HS1)
        go_ret
        exact ⟨by rw [HV.out]; rfl, below_drew' HBF.out _⟩
    · have hE0 : ((s0 : Int) == 0) = false := by simpa using h1
      rw [decide_eq_false h1, Bool.false_and, Bool.false_and] at HV
      go_wp2
      go_ret
      exact ⟨by rw [HV.out]; rfl, HBF.out⟩
end Go.Proofs.YtjmmckkiicefhaaDoor
namespace Go.Proofs.YtjmmckkiicefhaaDoor
open Go.RowKit Go.Shelf
/-- The lists of two answers. -/
structure TwoA (W : World) (base : Nat) (vA vB vC vD : Value) (pA pB pC pD : Lot) : Prop where
  a : Bag W base vA pA
  b : Bag W base vB pB
  c : Bag W base vC pC
  d : Bag W base vD pD
  rows : (pA ++ pB ++ pC ++ pD).Pairwise fun x y => ∀ g, x.1.ownBlock = some g → y.1.ownBlock ≠ some g
  outs : [vA, vB, vC, vD].Pairwise fun x y => ∀ g, x.ownBlock = some g → y.ownBlock ≠ some g
theorem TwoA.later {W W' : World} {base : Nat} {vA vB vC vD : Value} {pA pB pC pD : Lot} (h : TwoA W base vA vB vC vD pA pB pC pD) (hb : Below W.heap.size W W') : TwoA W' base vA vB vC vD pA pB pC pD :=
  ⟨h.a.later hb, h.b.later hb, h.c.later hb, h.d.later hb, h.rows, h.outs⟩
/-- One answer, then the other. -/
theorem two_of {w1 w2 w3 w4 : World} {m : Nat} {st : Int} {N O : List (List Int)} {vA vB vC vD : Value} (h1 : OfR w1 w2 m st N O vA vB) (hb1 : Below w1.heap.size w1 w2) (hb2 : Below w2.heap.size w2 w3) (h2 : OfR w3 w4 m st N O vC vD) (hb3 : Below w3.heap.size w3 w4) :
    ∃ pA pB pC pD : Lot, TwoA w4 w1.heap.size vA vB vC vD pA pB pC pD ∧ Lst m st N O (pA.map (·.2)) (pB.map (·.2)) ∧ Lst m st N O (pC.map (·.2)) (pD.map (·.2)) := by
  obtain ⟨pA, pB, a1, a2, a3, a4, a5⟩ := h1
  obtain ⟨pC, pD, c1, c2, c3, c4, c5⟩ := h2
  have z1 := hb1.size
  have z2 := hb2.size
  have hb24 := Below.later hb2 hb3
  have lowr : ∀ {v : Value} {p : Lot}, Bag w2 w1.heap.size v p → ∀ x ∈ p, ∀ g, x.1.ownBlock = some g → g < w2.heap.size := fun h x hx g hg => (World.ownsRow.lt (h.row x hx) g hg).2
  have hir : ∀ {v : Value} {p : Lot}, Bag w4 w3.heap.size v p → ∀ x ∈ p, ∀ g, x.1.ownBlock = some g → w3.heap.size ≤ g := fun h x hx g hg => (World.ownsRow.lt (h.row x hx) g hg).1
  have lowo : ∀ {v : Value} {p : Lot}, Bag w2 w1.heap.size v p → ∀ g, v.ownBlock = some g → g < w2.heap.size := fun h g hg => (World.ownsRow.lt h.outer g hg).2
  have hio : ∀ {v : Value} {p : Lot}, Bag w4 w3.heap.size v p → ∀ g, v.ownBlock = some g → w3.heap.size ≤ g := fun h g hg => (World.ownsRow.lt h.outer g hg).1
  refine ⟨pA, pB, pC, pD, ⟨a1.later hb24, a2.later hb24, c1.low (by omega), c2.low (by omega), ?_, ?_⟩, a5, c5⟩
  · rw [List.append_assoc, List.pairwise_append, List.pairwise_append, List.pairwise_append]
    refine ⟨⟨a1.apart, a2.apart, fun x hx y hy g hg => a3 x hx y hy g hg⟩, ⟨c1.apart, c2.apart, fun x hx y hy g hg => c3 x hx y hy g hg⟩, fun x hx y hy g hg hg2 => ?_⟩
    have h1 : g < w2.heap.size := by
      rcases List.mem_append.1 hx with q | q
      · exact lowr a1 x q g hg
      · exact lowr a2 x q g hg
    have h2 : w3.heap.size ≤ g := by
      rcases List.mem_append.1 hy with q | q
      · exact hir c1 y q g hg2
      · exact hir c2 y q g hg2
    omega
  · have x1 := lowo a1
    have x2 := lowo a2
    have x3 := hio c1
    have x4 := hio c2
    simp only [List.pairwise_cons, List.mem_cons, List.not_mem_nil, or_false, forall_eq_or_imp, forall_eq, List.Pairwise.nil, and_true]
    refine ⟨⟨fun g hg => a4 g hg, fun g hg q => ?_, fun g hg q => ?_⟩, ⟨fun g hg q => ?_, fun g hg q => ?_⟩, ⟨fun g hg => c4 g hg, fun _ h => ?_⟩⟩
    · have := x1 g hg; have := x3 g q; omega
    · have := x1 g hg; have := x4 g q; omega
    · have := x2 g hg; have := x3 g q; omega
    · have := x2 g hg; have := x4 g q; omega
    · exact absurd h (by simp)
/-- Nothing to part. -/
theorem split_nil (w : World) : Calls Tryd.prog 9 #[.slice none 0 0] w fun e w' => e = .returned (.bool true) ∧ w' = w := by
  go_enter Tryd.func9, Tryd.ntmps9
  go_wp2
  go_loopw [4] (fun iv wr => iv = .int .i64 0 ∧ wr = w) (fun _ _ => 0)
  case atStart => exact ⟨rfl, rfl⟩
  case round =>
    obtain ⟨rfl, rfl⟩ := hrel
    go_wp2
    go_loopw [3, 6] (fun vm iv w2 => vm = .slice none 0 0 ∧ iv = .int .i64 0 ∧ w2 = wr) (fun _ _ _ => 0)
    case atStart => exact ⟨rfl, rfl, rfl⟩
    case round =>
      obtain ⟨rfl, rfl, rfl⟩ := hrel
      go_wp2
      go_loopw [9] (fun iv w3 => iv = .int .i64 0 ∧ w3 = wr) (fun _ _ => 0)
      case atStart => exact ⟨rfl, rfl⟩
      case round =>
        obtain ⟨rfl, rfl⟩ := hrel
        go_wp2
        go_ret
        exact ⟨rfl, rfl⟩
end Go.Proofs.YtjmmckkiicefhaaDoor
namespace Go.Proofs.YtjmmckkiicefhaaDoor
open Go.RowKit Go.Shelf
/-- Pairs in memory: what leads to each. -/
structure TwA (W : World) (a : Option Addr) (l : List Mt) : Prop where
  at' : ∀ k, k < l.length → ∃ b off, a = some ⟨b, off, none⟩ ∧ b < W.heap.size ∧ W.cell? ⟨b, off + k * 4 + 2, none⟩ = some (.int .i64 (if k = 0 then -1 else ((l.getD k default).fr : Int))) ∧ W.cell? ⟨b, off + k * 4 + 3, none⟩ = some (.int .i64 ((l.getD k default).sy : Int))
theorem TwA.past {W W' : World} {a : Option Addr} {l : List Mt} (h : TwA W a l) (hb : Below W.heap.size W W') : TwA W' a l := ⟨fun k hk => by
  obtain ⟨b, off, e, h1, h2, h3⟩ := h.at' k hk
  exact ⟨b, off, e, Nat.lt_of_lt_of_le h1 hb.size, (hb.cell (p := ⟨b, off + k * 4 + 2, none⟩) h1).trans h2, (hb.cell (p := ⟨b, off + k * 4 + 3, none⟩) h1).trans h3⟩⟩
theorem Met.len {T : Two} {l : List Mt} {W : Nat → List Nat} (h : Met T l W) : ∀ k, k < l.length → (W k).length ≤ k := by
  intro k
  induction k using Nat.strongRecOn with
  | _ k ih =>
    intro hk
    by_cases h0 : k = 0
    · subst h0; rw [h.z.1]; simp
    · obtain ⟨h1, _, h3, _⟩ := h.st k (by omega) hk
      have := ih _ h1 (by omega)
      rw [h3, List.length_append, List.length_singleton]
      omega
end Go.Proofs.YtjmmckkiicefhaaDoor
namespace Go.Proofs.YtjmmckkiicefhaaDoor
open Go.RowKit Go.Shelf
theorem app_nilI (w : World) (ty : TypeId) : (Builtin.append_ #[25, 25] ty #[.slice none 0 0, .slice none 0 0]).run Tryd.prog w = .ok (.slice none 0 0) w := by
  go_simp
theorem wpList_spreadI {ops : Array Oper} {rest : List Oper} {op : Oper} {a : Act} {w : World} {Q : Exit → Act → World → Prop} (hgd : op.guard = none) (s x : Operand) (ho : op.op = .call { callee := .builtin .append, args := #[s, x], argTypes := #[25, 25] })
    (aN : Option Addr) (L : List Int) (cN base : Nat) (hs : a.eval s = .slice none 0 0) (hx : a.eval x = .slice aN L.length cN) (hnil : aN = none → cN = 0) (ha : IA w aN L) (hl : L.length ≤ 17592186044416) (hb : base ≤ w.heap.size)
    (h : ∀ v' w', OwnI w' base v' L → w.grownBy w' none → wpList Tryd.prog ops Q rest (a.put op.dst v') w') : wpList Tryd.prog ops Q (op :: rest) a w := by
  obtain ⟨i0, hi, hz0, hz1, hz2⟩ := info_parts infoInt
  cases aN with
  | none =>
    have hL : L = [] := by
      cases L with
      | nil => rfl
      | cons y r => obtain ⟨b, off, e, _⟩ := ha.at' 0 (by simp); cases e
    subst hL
    have hc := hnil rfl
    subst hc
    refine wpList_plain hgd fun K hK => ?_
    have hr := app_nilI w op.type
    unfold Oper.wp execOp
    simp only [ho, resolve, invoke, builtin, Sem.run_bind, Sem.run_pure, Result.andThen_ok, List.map_toArray, List.map_cons, List.map_nil, hs, hx, List.length_nil, hr]
    exact hK _ _ (h _ _ (World.ownsRow_nil _ _ _ _) ⟨rfl, rfl, rfl, Nat.le_refl _, fun _ _ _ => rfl⟩)
  | some ad =>
    refine wpList_append_own _ hgd s x 25 ho base 3 i0 (.int .i64 0) 1 8 Tryd.underlying25 hi hz0 hz1 hz2 rfl (by decide) (.slice none 0 0) 0 [] hs (World.ownsRow_nil _ _ _ _) ad L.length cN (L.map (Value.int .i64)) hx (by simp) (fun j u hu => ?_) (fun u hu => by obtain ⟨y, _, rfl⟩ := List.mem_map.1 hu; rfl) (by unfold maxLen; omega) (by omega) hb (fun v' w' h1 h2 _ => h v' w' (by rw [Nat.zero_add, List.nil_append] at h1; exact h1) h2)
    have hj : j < L.length := by have := (List.getElem?_eq_some_iff.1 hu).1; simpa using this
    obtain ⟨b, off, e, h1, h2⟩ := ha.at' j hj
    cases e
    rw [Addr.add_mid, h2]
    have : (L.map (Value.int .i64))[j]? = some (.int .i64 L[j]) := by simp [hj]
    rw [this] at hu
    exact hu
/-- Lists that are handed in: those without memory have no room. -/
structure RwN (w : World) (a : Option Addr) (L : List (List Int)) : Prop where
  at' : ∀ k (h : k < L.length), ∃ b off, a = some ⟨b, off, none⟩ ∧ b < w.heap.size ∧ ∃ a1 c1, w.cell? ⟨b, off + k, none⟩ = some (.slice a1 (L[k]).length c1) ∧ IA w a1 L[k] ∧ (a1 = none → c1 = 0)
theorem RwN.rwa {w : World} {a : Option Addr} {L : List (List Int)} (h : RwN w a L) : RwA w a L := ⟨fun k hk => by
  obtain ⟨b, off, e, h1, a1, c1, h2, h3, _⟩ := h.at' k hk
  exact ⟨b, off, e, h1, a1, c1, h2, h3⟩⟩
theorem RwN.past {w w' : World} {a : Option Addr} {L : List (List Int)} (h : RwN w a L) (hb : Below w.heap.size w w') : RwN w' a L := ⟨fun k hk => by
  obtain ⟨b, off, rfl, h1, a1, c1, h2, h3, h4⟩ := h.at' k hk
  exact ⟨b, off, rfl, Nat.lt_of_lt_of_le h1 hb.size, a1, c1, (hb.cell (p := ⟨b, off + k, none⟩) h1).trans h2, h3.past hb, h4⟩⟩
set_option maxRecDepth 10000 in
set_option maxHeartbeats 1600000 in
theorem rows_any (L : List (List Int)) (a : Option Addr) (cap : Nat) (w : World) (hl : L.length ≤ 2200000) (hr : ∀ r ∈ L, r.length ≤ 2200000) (ha : RwN w a L) :
    Calls Tryd.prog 13 #[.slice a L.length cap] w fun r w' => ∃ G c, r = .returned (.slice (some ⟨G, 0, none⟩) L.length c) ∧ Tz w' w.heap.size G c L ∧ Below w.heap.size w w' := by
  obtain ⟨i0, hi, hz0, hz1, hz2⟩ := info_parts infoInts
  obtain ⟨j0, hj, hy0, hy1, hy2⟩ := info_parts infoInt
  have HA := hid0 ha
  have HR := hid0 hr
  clear ha hr
  go_enter Tryd.func13, Tryd.ntmps13
  go_wp2
  go_loopw [3, 4] (fun v i wr => ∃ (k : Nat) (qs : Lz), k ≤ L.length ∧ i = .int .i64 (k : Int) ∧ Hid (Fits qs (L.take k) 0) ∧ Hid (qs.length = k) ∧ Hid (Pz wr w.heap.size v qs) ∧ Hid (Below w.heap.size w wr)) (fun _ i _ => L.length - (intOf i).toNat)
  case atStart => exact ⟨0, [], Nat.zero_le _, rfl, hid0 rfl, hid0 rfl, hid0 (Pz.nil _ _), hid0 (Below.refl _ _)⟩
  case round =>
    obtain ⟨wo, hwo⟩ : ∃ wo, wo = wr := ⟨_, rfl⟩
    subst hwo
    obtain ⟨k, qs, hk, rfl, HF, HK, HP, HB⟩ := hrel
    have hbs := HB.out.size
    by_cases hlt : k < L.length
    · obtain ⟨b, off, rfl, _, a1, c1, d1, i1, n1⟩ := (HA.out.past HB.out).at' k hlt
      have hkI : (k : Int) < (L.length : Int) := by omega
      have hkI0 : (0 : Int) ≤ (k : Int) := by omega
      have HTK : Hid (L.take (k + 1) = L.take k ++ [L[k]]) := hid0 (by rw [List.take_add_one, List.getElem?_eq_getElem hlt]; rfl)
      have hsl := HR.out _ (List.getElem_mem hlt)
      have HI1 := hid0 i1
      have HN1 := hid0 n1
      have HD1 : Hid (∀ V : World, Below wo.heap.size wo V → V.cell? ⟨b, off + k, none⟩ = some (.slice a1 (L[k]).length c1)) := hid0 (fun V hV => (hV.cell (p := ⟨b, off + k, none⟩) (World.block_lt_of_cell? _ _ d1)).trans d1)
      clear i1 n1
      generalize L[k] = s at *
      have HOO : Hid (wo.ownsRow w.heap.size 25 1 u3 k (qs.map (·.1))) := hid0 (by have h := HP.out.outer; rw [HK.out] at h; exact h)
      go_wp2_with (at_builtin; refine wpList_spreadI rfl _ _ rfl a1 s c1 wo.heap.size rfl rfl HN1.out HI1.out (by omega) (Nat.le_refl _) ?_; intro v1 w1 hown1 hgrow1; have HO1 := hid0 hown1; have HB1 := hid0 ((Below.refl wo.heap.size wo).grown hgrow1 (Nat.le_refl _) (fun k hk => by cases hk)); clear hown1 hgrow1)
      go_loopw [5, 6] (fun v i wr => ∃ m : Nat, m ≤ 64 ∧ i = .int .i64 (m : Int) ∧ Hid (OwnI wr wo.heap.size v (s ++ List.replicate m (-77))) ∧ Hid (Below wo.heap.size wo wr)) (fun _ i _ => 64 - (intOf i).toNat)
      case atStart => exact ⟨0, Nat.zero_le _, rfl, hid0 (by rw [List.replicate_zero, List.append_nil]; exact HO1.out), HB1⟩
      case round =>
        obtain ⟨m, hm, rfl, HO2, HB2⟩ := hrel
        have hs2 := HB2.out.size
        by_cases hm64 : m < 64
        · have hmI : (m : Int) < 64 := by omega
          have HE : Hid (s ++ List.replicate (m + 1) (-77) = (s ++ List.replicate m (-77)) ++ [(-77 : Int)]) := hid0 (by rw [List.replicate_succ', List.append_assoc])
          have hxl : (s ++ List.replicate m (-77 : Int)).length ≤ 3000000 := by rw [List.length_append, List.length_replicate]; omega
          obtain ⟨av, cv, ev, _⟩ := HO2.out.ia
          subst ev
          generalize (s ++ List.replicate m (-77 : Int)) = X at *
          go_wp2_with (at_builtin; go_loud ((
            refine wpList_append_own_at _ rfl _ _ 25 rfl wo.heap.size 3 j0 (.int .i64 0) 1 8 Tryd.underlying25 hj hy0 hy1 hy2 rfl (by decide) _ X.length (X.map (Value.int .i64)) rfl (World.ownsRow.alloc HO2.out _) ⟨wr.heap.size, 0, none⟩ 1 1 [.int .i64 (-77)] rfl rfl (cell_one_new _ _ _) (by simp [Value.oneCell']) (by unfold maxLen; omega) (by omega) (by simp; omega) ?_
            intro v2 w3 hown2 hgrow2 _ _
            have R := ownI_snoc rfl HO2.out hown2 hgrow2 HB2.out (Nat.le_refl _)
            have HO3 := hid0 R.1
            have HB3 := hid0 R.2
            obtain ⟨av2, cv2, ev2, _⟩ := R.1.ia
            rw [List.length_append, List.length_singleton] at ev2
            subst ev2
            clear R hown2 hgrow2)))
          go_roundw
          case rel => exact ⟨m + 1, by omega, by go_num, hid0 (by rw [HE.out]; exact HO3.out), HB3⟩
          case measure => simp [intOf]; omega
        · have hmI : ¬ (m : Int) < 64 := by omega
          obtain rfl : m = 64 := by omega
          have hO4 : OwnI wr wo.heap.size u5 (s ++ m77) := HO2.out
          have hl77 : (s ++ m77).length = s.length + 64 := by rw [List.length_append]; simp [m77]
          obtain ⟨g, c, e5, hg1, hg2, hg3⟩ := own_form hO4 (by omega)
          subst e5
          have HO4 := hid0 hO4
          have d2 := HD1.out wr HB2.out
          rw [hl77] at hg3
          have HL77 := hid0 hl77
          have hcapI : (s.length : Int) ≤ (c : Int) := by omega
          clear hO4 HO2
          rw [hl77]
          clear hl77
          go_wp2_with (at_builtin; go_loud ((
            refine wpList_append_own_at _ rfl _ _ 22 rfl w.heap.size 25 i0 (.slice none 0 0) 1 24 Tryd.underlying22 hi hz0 hz1 hz2 rfl (by decide) _ k (qs.map (·.1)) rfl (World.ownsRow.alloc (row_later HOO.out HB2.out) _) ⟨wr.heap.size, 0, none⟩ 1 1 [.slice (some ⟨g, 0, none⟩) s.length c] rfl rfl (cell_one_new _ _ _) (by simp [Value.oneCell']) (by unfold maxLen; omega) (by omega) (by simp; omega) ?_
            intro v2 w3 hown2 hgrow2 _ _
            have R := Pz.snoc HK.out.symm HP.out HB2.out (by have := HL77.out; omega) HO4.out hbs hown2 hgrow2 HB.out
            have HP3 := hid0 R.1
            have HB3 := hid0 R.2
            clear R hown2 hgrow2)))
          have HF3 : Hid (Fits (qs ++ [(Value.slice (some ⟨g, 0, none⟩) s.length c, s.length, s ++ m77)]) (L.take (k + 1)) 0) := hid0 (by rw [HTK.out]; exact HF.out.snoc)
          have HK3 : Hid ((qs ++ [(Value.slice (some ⟨g, 0, none⟩) s.length c, s.length, s ++ m77)]).length = k + 1) := hid0 (by rw [List.length_append, HK.out]; rfl)
          clear HP HB HF HK HOO HTK
          go_roundw
          case rel => exact ⟨k + 1, _, by omega, by go_num, HF3, HK3, HP3, HB3⟩
          case measure => simp [intOf]; omega
    · have hkI : ¬ (k : Int) < (L.length : Int) := by omega
      have HF2 : Hid (Fits qs L 0) := hid0 (by have h := HF.out; rw [List.take_of_length_le (by omega)] at h; exact h)
      have hkL : k = L.length := by omega
      have HKL := hid0 hkL
      clear HF hkL
      go_wp2
      go_loopw [3, 7] (fun v i wr => ∃ (m : Nat) (qs : Lz), m ≤ 64 ∧ i = .int .i64 (m : Int) ∧ Hid (Fits qs L m) ∧ Hid (Pz wr w.heap.size v qs) ∧ Hid (Below w.heap.size w wr)) (fun _ i _ => 64 - (intOf i).toNat)
      case atStart => exact ⟨0, qs, Nat.zero_le _, rfl, HF2, HP, HB⟩
      case round =>
        clear HF2 HP HB HK
        obtain ⟨m, qs, hm, rfl, HF, HP, HB⟩ := hrel
        have hbs := HB.out.size
        have hql := HF.out.len
        by_cases hm64 : m < 64
        · have hmI : (m : Int) < 64 := by omega
          obtain ⟨w5, hw5⟩ : ∃ w5, w5 = wr.alloc (.cells #[.int .i64 (-78)] 3) := ⟨_, rfl⟩
          have hb5 : Below wr.heap.size wr w5 := by rw [hw5]; exact (Below.refl _ _).alloc (Nat.le_refl _) _
          have HO5 : Hid (OwnI w5 wr.heap.size (.slice (some ⟨wr.heap.size, 0, none⟩) 1 1) [-78]) := hid0 (by rw [hw5]; exact ⟨rfl, .inr ⟨wr.heap.size, 1, _, rfl, Nat.le_refl _, heap_alloc_new wr _, Nat.le_refl _, by decide, rfl, rfl⟩⟩)
          have HB5 := hid0 hb5
          have hs5 := hb5.size
          have hf5 := hw5.symm
          have HQL := hid0 hql
          clear hw5 hb5
          obtain ⟨n, hn⟩ : ∃ n, n = qs.length := ⟨_, rfl⟩
          have hnb : n ≤ 3000000 := by omega
          have HN := hid0 hn
          have HOO : Hid (w5.ownsRow w.heap.size 25 1 u3 n (qs.map (·.1))) := hid0 (by rw [hn]; exact row_later HP.out.outer HB5.out)
          clear hql hn
          go_wp2_with (at_builtin; go_loud ((
            refine wpList_append_own_at _ rfl _ _ 22 rfl w.heap.size 25 i0 (.slice none 0 0) 1 24 Tryd.underlying22 hi hz0 hz1 hz2 rfl (by decide) _ n (qs.map (·.1)) rfl (World.ownsRow.alloc HOO.out _) ⟨w5.heap.size, 0, none⟩ 1 1 [.slice (some ⟨wr.heap.size, 0, none⟩) 1 1] rfl rfl (cell_one_new _ _ _) (by simp [Value.oneCell']) (by unfold maxLen; omega) (by omega) (by simp; omega) ?_
            intro v2 w6 hown2 hgrow2 _ _
            have R := Pz.snoc (r := [-78]) (m := 1) HN.out HP.out HB5.out (Nat.le_refl _) HO5.out hbs hown2 hgrow2 HB.out
            have HP3 := hid0 R.1
            have HB3 := hid0 R.2
            clear R hown2 hgrow2)))
          go_roundw
          case rel => exact ⟨m + 1, _, by omega, by go_num, hid0 HF.out.more, HP3, HB3⟩
          case measure => simp [intOf]; omega
        · have hmI : ¬ (m : Int) < 64 := by omega
          obtain rfl : m = 64 := by omega
          obtain ⟨G, c, e3, hg1, hg2, hg3⟩ := own_form HP.out.outer (by omega)
          rw [hql] at hg3 e3
          subst e3
          have HTz : Hid (Tz wr w.heap.size G c L) := hid0 ⟨qs, HP.out, HF.out⟩
          have hcapI : (L.length : Int) ≤ (c : Int) := by omega
          clear hql
          go_wp2
          go_ret
          exact ⟨G, c, rfl, HTz.out, HB.out⟩
end Go.Proofs.YtjmmckkiicefhaaDoor
namespace Go.Proofs.YtjmmckkiicefhaaDoor
open Go.RowKit Go.Shelf
set_option maxRecDepth 100000 in
theorem make_ints (n : Nat) (w : World) (hn : n ≤ 100000000000) : ∃ w', (Instr.makeSlice 25 (.int .i64 (n : Int)) (.int .i64 (n : Int))).run Tryd.prog w = .ok (.slice (some ⟨w.heap.size, 0, none⟩) n n) w' ∧ Ov w' w.heap.size n (fun _ => 0) ∧ w'.heap.size = w.heap.size + 1 ∧ Below w.heap.size w w' := by
  obtain ⟨i, hi, hz0, hz1, hz2⟩ := info_parts infoInt
  have hr := run_make (P := Tryd.prog) w 25 3 i (.int .i64 0) Tryd.underlying25 hi hz0 .i64 .i64 n n (by omega) (by omega) (by rw [hz2]; omega) (by omega)
  have e2 : ((n : Int)).toNat = n := Int.toNat_natCast n
  simp only [e2, hz1] at hr
  refine ⟨_, hr, ⟨?_⟩, by simp, (Below.refl _ _).alloc (Nat.le_refl _) _⟩
  refine (heap_alloc_new w _).trans ?_
  congr 2
  apply Array.ext
  · rw [size_madeCells]; simp [ovF]
  · intro k h1 h2
    simp [madeCells, ovF, Value.cells, Nat.mod_one]
theorem Ov.congr {W : World} {G n : Nat} {p q : Nat → Nat} (h : Ov W G n p) (e : ∀ s, s < n → p s = q s) : Ov W G n q := ⟨by
  have : ovF n p = ovF n q := by
    unfold ovF
    exact List.map_congr_left (fun s hs => by rw [e s (List.mem_range.1 hs)])
  rw [← this]
  exact h.blk⟩
end Go.Proofs.YtjmmckkiicefhaaDoor
namespace Go.Proofs.YtjmmckkiicefhaaDoor
open Go.RowKit Go.Shelf
end Go.Proofs.YtjmmckkiicefhaaDoor
namespace Go.Proofs.YtjmmckkiicefhaaDoor
open Go.RowKit Go.Shelf
/-- The rows of a machine, as they lie below. -/
structure MaA (w : World) (aN aO : Option Addr) (N O : List (List Int)) : Prop where
  n : RwA w aN N
  o : RwA w aO O
theorem MaA.past {w w' : World} {aN aO : Option Addr} {N O : List (List Int)} (h : MaA w aN aO N O) (hb : Below w.heap.size w w') : MaA w' aN aO N O := ⟨h.n.past hb, h.o.past hb⟩
/-- The queue, or nothing: they never part. -/
def Inv (T : Two) (l : List Mt) (Wd : Nat → List Nat) (i : Nat) : Prop := (l = [] ∧ i = 0 ∧ ∀ z, ¬ T.dis T.sa T.sb z) ∨ (Que T l Wd i 0 ∧ i ≤ l.length)
theorem Inv.le {T : Two} {l : List Mt} {Wd : Nat → List Nat} {i : Nat} (h : Inv T l Wd i) : i ≤ l.length := by
  rcases h with ⟨rfl, rfl, _⟩ | h
  · exact Nat.le_refl _
  · exact h.2
theorem Inv.none {T : Two} {l : List Mt} {Wd : Nat → List Nat} {i : Nat} (h : Inv T l Wd i) (hi : i = l.length) : ∀ z, T.ok z → ¬ T.dis T.sa T.sb z := by
  rcases h with ⟨_, _, h⟩ | h
  · exact fun z _ => h z
  · subst hi; exact h.1.none
theorem Inv.que {T : Two} {l : List Mt} {Wd : Nat → List Nat} {i : Nat} (h : Inv T l Wd i) (hi : i < l.length) : Que T l Wd i 0 := by
  rcases h with ⟨rfl, _, _⟩ | h
  · exact absurd hi (Nat.not_lt_zero _)
  · exact h.1
theorem que_meet {T : Two} {l l' : List Mt} {Wd : Nat → List Nat} {i c : Nat} {x : Mt} (hq : Que T l Wd i c) (hi : i < l.length) (hc : c < T.m) (hx : x = ⟨T.fa (l.getD i default).a c, T.fb (l.getD i default).b c, i, c⟩)
    (h : (l' = l ∧ ∀ v, T.dis x.a x.b v → ∃ k, k < l.length ∧ T.dis (l.getD k default).a (l.getD k default).b v) ∨ l' = l ++ [x]) : ∃ Wd', Que T l' Wd' i (c + 1) ∧ i < l'.length ∧ l'.getD i default = l.getD i default := by
  rcases h with ⟨rfl, h⟩ | rfl
  · subst hx
    exact ⟨Wd, hq.keep hi h, hi, rfl⟩
  · subst hx
    obtain ⟨W', h'⟩ := hq.push hi hc
    exact ⟨W', h', by rw [List.length_append]; omega, getD_snoc_old hi⟩
end Go.Proofs.YtjmmckkiicefhaaDoor
namespace Go.Proofs.YtjmmckkiicefhaaDoor
open Go.RowKit Go.Shelf
theorem getD_at {L : List (List Int)} {k : Nat} (h : k < L.length) : L.getD k [] = L[k] := by rw [List.getD_eq_getElem?_getD, List.getElem?_eq_getElem h]; rfl
end Go.Proofs.YtjmmckkiicefhaaDoor
namespace Go.Proofs.YtjmmckkiicefhaaDoor
open Go.RowKit Go.Shelf
def errQ (A : Nat → Addr) : Option (Option (List Nat)) → Value
  | none => .iface 112 (.pointer (some (A 0)))
  | some _ => .nilIface
/-- Lists of a machine are small. -/
structure Sml (N O : List (List Int)) : Prop where
  n : N.length ≤ 2200000
  nr : ∀ r ∈ N, r.length ≤ 2200000
  or : ∀ r ∈ O, r.length ≤ 2200000
theorem two_boxes (w : World) (a b : Array Value) (t : TypeId) : ∃ w0, (w.alloc (.cells a t)).alloc (.cells b t) = w0 ∧ Below w.heap.size w w0 ∧ w0.heap.size = w.heap.size + 1 + 1 ∧ w0.heap[w.heap.size]? = some (.cells a t (0, 0)) ∧ w0.heap[w.heap.size + 1]? = some (.cells b t (0, 0)) := by
  refine ⟨_, rfl, ((Below.refl _ _).alloc (Nat.le_refl _) _).alloc (by simp) _, by simp, ?_, ?_⟩
  · rw [Below.heap_alloc _ _ _ (by simp)]
    exact heap_alloc_new w _
  · have h := heap_alloc_new (w.alloc (.cells a t)) (.cells b t)
    simpa using h
theorem row3c {W : World} {X : Nat} {t : TypeId} {a b c : Value} (h : W.heap[X]? = some (.cells #[a, b, c] t (0, 0))) : W.cell? ⟨X, 0, none⟩ = some a ∧ W.cell? ⟨X, 1, none⟩ = some b ∧ W.cell? ⟨X, 2, none⟩ = some c :=
  ⟨by rw [cell_of_row _ _ _ _ _ _ h]; rfl, by rw [cell_of_row _ _ _ _ _ _ h]; rfl, by rw [cell_of_row _ _ _ _ _ _ h]; rfl⟩
end Go.Proofs.YtjmmckkiicefhaaDoor
namespace Go.Proofs.YtjmmckkiicefhaaDoor
open Go.RowKit Go.Shelf
theorem drew_more {w w' : World} {a b : Nat} (h : ∃ m, w' = (w.drewN (a + b)).drewN m) : ∃ n, w' = w.drewN (a + n) := by
  obtain ⟨m, hm⟩ := h
  exact ⟨b + m, by rw [hm, World.drewN_drewN, Nat.add_assoc]⟩
set_option maxRecDepth 10000 in
set_option maxHeartbeats 1600000 in
theorem sameRows (L : List (List Int)) (a b : Option Addr) (ca cb : Nat) (w : World) (hl : L.length ≤ 1000000000) (hr : ∀ r ∈ L, r.length ≤ 1000000000) (ha : RwA w a L) (hb : RwA w b L) :
    Calls Tryd.prog 21 #[.slice a L.length ca, .slice b L.length cb] w fun e w' => e = .returned (.bool true) ∧ ∃ n, w' = w.drewN n := by
  have HA := hid0 ha
  have HB := hid0 hb
  have HR := hid0 hr
  clear ha hb hr
  go_enter Tryd.func21, Tryd.ntmps21
  go_wp2
  go_loopw [5] (fun i wr => ∃ k : Nat, k ≤ L.length ∧ i = .int .i64 (k : Int) ∧ ∃ n, wr = w.drewN n) (fun i _ => L.length - (intOf i).toNat)
  case atStart => exact ⟨0, Nat.zero_le _, rfl, 0, rfl⟩
  case round =>
    obtain ⟨k, hk, rfl, nd, rfl⟩ := hrel
    by_cases hlt : k < L.length
    · obtain ⟨b1, o1, rfl, _, a1, c1, d1, i1⟩ := HA.out.at' k hlt
      obtain ⟨b2, o2, rfl, _, a2, c2, d2, i2⟩ := HB.out.at' k hlt
      have HS := hid0 (fun n => sameI L[k] a1 a2 c1 c2 (w.drewN n) (by have := HR.out _ (List.getElem_mem hlt); omega) ⟨i1.at'⟩ ⟨i2.at'⟩)
      clear i1 i2
      generalize L[k] = s at *
      have hkI : (k : Int) < (L.length : Int) := by omega
      have hkI0 : (0 : Int) ≤ (k : Int) := by omega
      go_wp2
      go_quiet ((go_at_call 40; exact (HS.out _).mono (fun _ _ h => ⟨h.1, drew_more h.2⟩)))
      go_wp2
      go_roundw
      case rel => exact ⟨k + 1, by omega, by go_num, _, rfl⟩
      case measure => simp [intOf]; omega
    · have hkI : ¬ (k : Int) < (L.length : Int) := by omega
      go_wp2
      go_ret
      exact ⟨rfl, nd, rfl⟩
set_option maxRecDepth 10000 in
set_option maxHeartbeats 1600000 in
theorem still_any (L : List (List Int)) (base G c cb : Nat) (b : Option Addr) (w : World) (hl : L.length ≤ 2200000) (hr : ∀ r ∈ L, r.length ≤ 2200000) (ht : Tz w base G c L) (hb : RwA w b L) :
    Calls Tryd.prog 22 #[.slice (some ⟨G, 0, none⟩) L.length c, .slice b L.length cb] w fun e w' => e = .returned (.bool true) ∧ ∃ n, w' = w.drewN n := by
  have HS := hid0 (sameRows L (some ⟨G, 0, none⟩) b c cb w (by omega) (fun r h => by have := hr r h; omega) ht.rwa hb)
  have hcap := ht.cap.1
  have HT := hid0 ht
  have HR := hid0 hr
  have hcapI : (L.length : Int) + 64 ≤ (c : Int) := by omega
  clear ht hb hr
  go_enter Tryd.func22, Tryd.ntmps22
  go_wp2_with (go_at_call 21; refine HS.out.mono ?_; rintro e w1 ⟨rfl, n1, hw1⟩; subst hw1)
  go_loopw [6] (fun i wr => ∃ k : Nat, k ≤ L.length ∧ i = .int .i64 (k : Int) ∧ ∃ n, wr = w.drewN n) (fun i _ => L.length - (intOf i).toNat)
  case atStart => exact ⟨0, Nat.zero_le _, rfl, n1, rfl⟩
  case round =>
    obtain ⟨k, hk, rfl, nd, rfl⟩ := hrel
    by_cases hlt : k < L.length
    · obtain ⟨g, cg, d1, hcg, _, hm, _⟩ := HT.out.row hlt
      have HM := hid0 hm
      have hsl := HR.out _ (List.getElem_mem hlt)
      generalize L[k] = s at *
      have hkI : (k : Int) < (L.length : Int) := by omega
      have hkI0 : (0 : Int) ≤ (k : Int) := by omega
      have hsum : IntKind.i64.wrap ((s.length : Int) + 64) = (s.length : Int) + 64 := by simp [IntKind.wrap, IntKind.bits, IntKind.signed]; omega
      have hcgI : (s.length : Int) + 64 ≤ (cg : Int) := by omega
      have hs0 : (0 : Int) ≤ (s.length : Int) + 64 := by omega
      clear hm
      go_wp2
      go_quiet ((fail))
      go_wp2
      go_loopw [8] (fun i wr => ∃ j : Nat, j ≤ 64 ∧ i = .int .i64 ((s.length : Int) + (j : Int)) ∧ ∃ n, wr = w.drewN n) (fun i _ => s.length + 64 - (intOf i).toNat)
      case atStart => exact ⟨0, Nat.zero_le _, by simp, _, rfl⟩
      case round =>
        obtain ⟨j, hj, rfl, ne, rfl⟩ := hrel
        by_cases hj64 : j < 64
        · have m1 := HM.out j hj64
          obtain ⟨p, hp⟩ : ∃ p, p = s.length + j := ⟨_, rfl⟩
          have hpI : (s.length : Int) + (j : Int) = (p : Int) := by omega
          rw [hpI]
          rw [← hp] at m1
          have hp1 : (p : Int) < (s.length : Int) + 64 := by omega
          have hp0 : (0 : Int) ≤ (p : Int) := by omega
          have hpn : p < s.length + 64 := by omega
          have HPe := hid0 hp
          clear hp hpI
          go_wp2
          go_roundw
          case rel => exact ⟨j + 1, by omega, by have := HPe.out; go_num, _, rfl⟩
          case measure => have := HPe.out; simp [intOf]; omega
        · obtain rfl : j = 64 := by omega
          have hjI : ¬ (s.length : Int) + ((64 : Nat) : Int) < (s.length : Int) + 64 := by omega
          have hjJ : ¬ (s.length : Int) + 64 < (s.length : Int) + 64 := by omega
          go_wp2
          go_roundw
          case rel => exact ⟨k + 1, by omega, by go_num, _, rfl⟩
          case measure => simp [intOf]; omega
    · have hkI : ¬ (k : Int) < (L.length : Int) := by omega
      have hsum : IntKind.i64.wrap ((L.length : Int) + 64) = (L.length : Int) + 64 := by simp [IntKind.wrap, IntKind.bits, IntKind.signed]; omega
      have hs0 : (0 : Int) ≤ (L.length : Int) + 64 := by omega
      go_wp2
      go_loopw [10] (fun i wr => ∃ j : Nat, j ≤ 64 ∧ i = .int .i64 ((L.length : Int) + (j : Int)) ∧ ∃ n, wr = w.drewN n) (fun i _ => L.length + 64 - (intOf i).toNat)
      case atStart => exact ⟨0, Nat.zero_le _, by simp, nd, rfl⟩
      case round =>
        obtain ⟨j, hj, rfl, ne, rfl⟩ := hrel
        by_cases hj64 : j < 64
        · obtain ⟨g, cg, m1, m2⟩ := HT.out.mark hj64
          obtain ⟨p, hp⟩ : ∃ p, p = L.length + j := ⟨_, rfl⟩
          have hpI : (L.length : Int) + (j : Int) = (p : Int) := by omega
          rw [hpI]
          rw [← hp] at m1
          have hp1 : (p : Int) < (L.length : Int) + 64 := by omega
          have hp0 : (0 : Int) ≤ (p : Int) := by omega
          have hpn : p < L.length + 64 := by omega
          have HPe := hid0 hp
          clear hp hpI
          go_wp2
          go_roundw
          case rel => exact ⟨j + 1, by omega, by have := HPe.out; go_num, _, rfl⟩
          case measure => have := HPe.out; simp [intOf]; omega
        · obtain rfl : j = 64 := by omega
          have hjJ : ¬ (L.length : Int) + 64 < (L.length : Int) + 64 := by omega
          go_wp2
          go_ret
          exact ⟨rfl, ne, rfl⟩
end Go.Proofs.YtjmmckkiicefhaaDoor
namespace Go.Proofs.YtjmmckkiicefhaaDoor
open Go.RowKit Go.Shelf
set_option maxRecDepth 10000 in
set_option maxHeartbeats 1600000 in
theorem sameMachine_any (s : Int) (N O : List (List Int)) (aN aO bN bO : Option Addr) (cN cO dN dO : Nat) (w : World) (hs : SmlO N O) (hol : O.length ≤ 2200000) (h1 : RwA w aN N) (h2 : RwA w aO O) (h3 : RwA w bN N) (h4 : RwA w bO O) :
    Calls Tryd.prog 8 #[.agg #[.int .i64 s, .slice aN N.length cN, .slice aO O.length cO], .agg #[.int .i64 s, .slice bN N.length dN, .slice bO O.length dO]] w fun e w' => e = .returned (.bool true) ∧ Below w.heap.size w w' := by
  obtain ⟨w0, hw0, hB0, hsz0, hA0, hM0⟩ := two_boxes w #[.int .i64 s, .slice aN N.length cN, .slice aO O.length cO] #[.int .i64 s, .slice bN N.length dN, .slice bO O.length dO] 24
  obtain ⟨x0, x1, x2⟩ := row3c hA0
  obtain ⟨x3, x4, x5⟩ := row3c hM0
  have hself : (s == s) = true := by simp
  have HS1 := hid0 (sameRows N aN bN cN dN w0 (by have := hs.n; omega) (fun r hr => by have := hs.nr r hr; omega) (h1.past hB0) (h3.past hB0))
  have HS2 : Hid (∀ q, Calls Tryd.prog 21 #[.slice aO O.length cO, .slice bO O.length dO] (w0.drewN q) fun e w' => e = .returned (.bool true) ∧ ∃ n, w' = (w0.drewN q).drewN n) := hid0 (fun q => by
    have hq : Below w0.heap.size w0 (w0.drewN q) := below_drew' (Below.refl _ _) q
    exact sameRows O aO bO cO dO (w0.drewN q) (by omega) (fun r hr => by have := hs.or r hr; omega) ((h2.past hB0).past hq) ((h4.past hB0).past hq))
  have HB0 := hid0 hB0
  have HZ := hid0 hsz0
  clear hB0 hsz0 hA0 hM0 h1 h2 h3 h4 hs
  go_enter Tryd.func8, Tryd.ntmps8
  go_wp2_with (first | (go_at_call 21; refine HS1.out.mono ?_; rintro e w3 ⟨rfl, n3, hw3⟩; subst hw3; clear HS1) | (go_at_call 21; refine (HS2.out n3).mono ?_; rintro e w4 ⟨rfl, n4, hw4⟩; rw [World.drewN_drewN] at hw4; subst hw4))
  go_ret
  exact ⟨rfl, below_drew' HB0.out _⟩
theorem ia_blk {W : World} {g : Nat} {t : TypeId} {L : List Int} (h : W.heap[g]? = some (.cells (L.map (Value.int .i64)).toArray t (0, 0))) : IA W (some ⟨g, 0, none⟩) L := ⟨fun k hk => ⟨g, 0, rfl, (Array.getElem?_eq_some_iff.1 h).1, by
  rw [Nat.zero_add, cell_of_row _ _ _ _ _ _ h]
  simp [hk]⟩⟩
theorem known_sml : SmlO kN kO := ⟨by decide, by decide, by decide, by decide, fun m h => by
  have := h [1, 1] (by decide)
  have e : m = 2 := by rw [← this]; rfl
  subst e
  decide⟩
/-- The machine that known lays. -/
theorem known_laid (w : World) : ∃ w1 w2 w3 w4 w5 w6 : World, w.alloc (.cells #[.int .i64 1, .int .i64 1] 3) = w1 ∧ w1.alloc (.cells #[.int .i64 0, .int .i64 2] 3) = w2 ∧ w2.alloc (.cells #[.int .i64 2, .int .i64 2] 3) = w3 ∧
    w3.alloc (.cells #[.slice (some ⟨w.heap.size, 0, none⟩) 2 2, .slice (some ⟨w1.heap.size, 0, none⟩) 2 2, .slice (some ⟨w2.heap.size, 0, none⟩) 2 2] 25) = w4 ∧ w4.alloc (.cells #[.int .i64 5] 3) = w5 ∧ w5.alloc (.cells #[.slice none 0 0, .slice none 0 0, .slice (some ⟨w4.heap.size, 0, none⟩) 1 1] 25) = w6 ∧
    Below w.heap.size w w6 ∧ RwA w6 (some ⟨w3.heap.size, 0, none⟩) kN ∧ RwA w6 (some ⟨w5.heap.size, 0, none⟩) kO := by
  refine ⟨_, _, _, _, _, _, rfl, rfl, rfl, rfl, rfl, rfl, ?_⟩
  generalize hw1 : w.alloc (.cells #[.int .i64 1, .int .i64 1] 3) = w1
  generalize hw2 : w1.alloc (.cells #[.int .i64 0, .int .i64 2] 3) = w2
  generalize hw3 : w2.alloc (.cells #[.int .i64 2, .int .i64 2] 3) = w3
  generalize hw4 : w3.alloc (.cells #[.slice (some ⟨w.heap.size, 0, none⟩) 2 2, .slice (some ⟨w1.heap.size, 0, none⟩) 2 2, .slice (some ⟨w2.heap.size, 0, none⟩) 2 2] 25) = w4
  generalize hw5 : w4.alloc (.cells #[.int .i64 5] 3) = w5
  generalize hw6 : w5.alloc (.cells #[.slice none 0 0, .slice none 0 0, .slice (some ⟨w4.heap.size, 0, none⟩) 1 1] 25) = w6
  have b1 : Below w.heap.size w w1 := by rw [← hw1]; exact below_alloc _ _
  have b2 : Below w1.heap.size w1 w2 := by rw [← hw2]; exact below_alloc _ _
  have b3 : Below w2.heap.size w2 w3 := by rw [← hw3]; exact below_alloc _ _
  have b4 : Below w3.heap.size w3 w4 := by rw [← hw4]; exact below_alloc _ _
  have b5 : Below w4.heap.size w4 w5 := by rw [← hw5]; exact below_alloc _ _
  have b6 : Below w5.heap.size w5 w6 := by rw [← hw6]; exact below_alloc _ _
  have c5 := Below.later b5 b6
  have c4 := Below.later b4 c5
  have c3 := Below.later b3 c4
  have c2 := Below.later b2 c3
  have n1 : w1.heap[w.heap.size]? = some (.cells #[.int .i64 1, .int .i64 1] 3 (0, 0)) := by rw [← hw1]; exact heap_alloc_new _ _
  have n2 : w2.heap[w1.heap.size]? = some (.cells #[.int .i64 0, .int .i64 2] 3 (0, 0)) := by rw [← hw2]; exact heap_alloc_new _ _
  have n3 : w3.heap[w2.heap.size]? = some (.cells #[.int .i64 2, .int .i64 2] 3 (0, 0)) := by rw [← hw3]; exact heap_alloc_new _ _
  have n4 : w4.heap[w3.heap.size]? = some (.cells #[.slice (some ⟨w.heap.size, 0, none⟩) 2 2, .slice (some ⟨w1.heap.size, 0, none⟩) 2 2, .slice (some ⟨w2.heap.size, 0, none⟩) 2 2] 25 (0, 0)) := by rw [← hw4]; exact heap_alloc_new _ _
  have n5 : w5.heap[w4.heap.size]? = some (.cells #[.int .i64 5] 3 (0, 0)) := by rw [← hw5]; exact heap_alloc_new _ _
  have n6 : w6.heap[w5.heap.size]? = some (.cells #[.slice none 0 0, .slice none 0 0, .slice (some ⟨w4.heap.size, 0, none⟩) 1 1] 25 (0, 0)) := by rw [← hw6]; exact heap_alloc_new _ _
  have m1 := (c2.block _ (Array.getElem?_eq_some_iff.1 n1).1).trans n1
  have m2 := (c3.block _ (Array.getElem?_eq_some_iff.1 n2).1).trans n2
  have m3 := (c4.block _ (Array.getElem?_eq_some_iff.1 n3).1).trans n3
  have m4 := (c5.block _ (Array.getElem?_eq_some_iff.1 n4).1).trans n4
  have m5 := (b6.block _ (Array.getElem?_eq_some_iff.1 n5).1).trans n5
  refine ⟨Below.later b1 c2, ⟨fun k hk => ⟨_, _, rfl, (Array.getElem?_eq_some_iff.1 m4).1, ?_⟩⟩, ⟨fun k hk => ⟨_, _, rfl, (Array.getElem?_eq_some_iff.1 n6).1, ?_⟩⟩⟩
  · rw [Nat.zero_add, cell_of_row _ _ _ _ _ _ m4]
    match k, hk with
    | 0, _ => exact ⟨_, _, rfl, ia_blk (L := [1, 1]) m1⟩
    | 1, _ => exact ⟨_, _, rfl, ia_blk (L := [0, 2]) m2⟩
    | 2, _ => exact ⟨_, _, rfl, ia_blk (L := [2, 2]) m3⟩
    | k + 3, hk => exact absurd hk (by simp [kN])
  · rw [Nat.zero_add, cell_of_row _ _ _ _ _ _ n6]
    match k, hk with
    | 0, _ => exact ⟨_, _, rfl, ⟨fun k hk => absurd hk (by simp [kO])⟩⟩
    | 1, _ => exact ⟨_, _, rfl, ⟨fun k hk => absurd hk (by simp [kO])⟩⟩
    | 2, _ => exact ⟨_, _, rfl, ia_blk (L := [5]) m5⟩
    | k + 3, hk => exact absurd hk (by simp [kO])
set_option maxRecDepth 10000 in
set_option maxHeartbeats 1600000 in
theorem known_any (x : Addr) (w : World) (he : E1 w x) : Calls Tryd.prog 4 #[] w fun e w' => e = .returned (.bool true) ∧ Below w.heap.size w w' := by
  obtain ⟨w1, w2, w3, w4, w5, w6, q1, q2, q3, q4, q5, q6, hB6, hN6, hO6⟩ := known_laid w
  have HOf := hid0 (of_sml 0 2 kN kO (some ⟨w3.heap.size, 0, none⟩) (some ⟨w5.heap.size, 0, none⟩) 3 3 w6 known_red.may known_sml hN6 hO6)
  have HB6 := hid0 hB6
  have HE := hid0 he
  clear hB6 hN6 hO6 he
  go_enter Tryd.func4, Tryd.ntmps4
  go_upto_region 2 with (go_at_call 7; go_loud ((refine HOf.out.mono ?_; rintro e w7 ⟨vN, vO, rfl, hof, hb7⟩; obtain ⟨N', O', aA, cA, aB, cB, rfl, rfl, qA, qB, hl⟩ := hof.rows; clear hof; obtain ⟨e1, e2⟩ := (Lst.self known_red).uniq hl; subst e1; subst e2; have HB7 := hid0 hb7; have HQ := hid0 (And.intro qA qB); clear qA qB hl hb7)))
  obtain ⟨w8, hw8⟩ : ∃ w8, w8 = w7.alloc (.cells #[.int .i64 0, .slice aA kN.length cA, .slice aB kO.length cB] 24) := ⟨_, rfl⟩
  obtain ⟨qA, qB⟩ := HQ.out
  have hB8 : Below w7.heap.size w7 w8 := by rw [hw8]; exact below_alloc _ _
  have hX8 : MBox w8 w7.heap.size 0 (.slice aA kN.length cA) (.slice aB kO.length cB) := by rw [hw8]; exact MBox.new _ _ _ _
  have hB68 : Below w6.heap.size w6 w8 := Below.later HB7.out hB8
  have HBF : Hid (Below w.heap.size w w8) := hid0 (Below.later HB6.out hB68)
  have HIs := hid0 (is_any x 0 2 kN kO aA aB cA cB w8 known_sml (qA.past hB8) (qB.past hB8) (HE.out.below HBF.out))
  rw [show isB 0 kN kO 2 = true from isB_yes known_red] at HIs
  obtain ⟨b, off, rfl, _, a2, c2, d2, i2⟩ := (qB.past hB8).at' 2 (by decide)
  have d2' : w8.cell? ⟨b, off + 2, none⟩ = some (.slice a2 1 c2) := d2
  obtain ⟨b2, off2, rfl, _, d3⟩ := i2.at' 0 (by decide)
  have d3' : w8.cell? ⟨b2, off2 + 0, none⟩ = some (.int .i64 5) := d3
  rw [Nat.add_zero] at d3'
  obtain ⟨z0, z1, z2⟩ := hX8.c
  rw [show kN.length = 3 from rfl] at z1 hw8 HIs
  rw [show kO.length = 3 from rfl] at z2 hw8 HIs
  have q8 := hw8.symm
  clear hw8 hX8 hB68 hB8 qA qB HQ q1 q2 q3 q4 q5 q6 d2 d3 i2
  simp only [show kN.length = 3 from rfl, show kO.length = 3 from rfl]
  go_wp2_with (go_at_call 12; refine HIs.out.mono ?_; rintro e w9 ⟨rfl, hb9⟩; have HB9 := hid0 (Below.later HBF.out hb9); clear hb9)
  go_ret
  exact ⟨rfl, HB9.out⟩
end Go.Proofs.YtjmmckkiicefhaaDoor
namespace Go.Proofs.YtjmmckkiicefhaaDoor
open Go.RowKit Go.Shelf
def pickN (k : Int) (n : Nat) : Nat := (if k.tmod n < 0 then k.tmod n + n else k.tmod n).toNat
theorem pickN_lt (k : Int) (n : Nat) (hn : 0 < n) : pickN k n < n := by
  have hm1 := Int.tmod_lt_of_pos k (b := (n : Int)) (by omega)
  have hm2 : -(n : Int) < k.tmod n := by
    have := Int.tmod_lt_of_pos (-k) (b := (n : Int)) (by omega)
    rw [Int.neg_tmod] at this
    omega
  unfold pickN
  split <;> omega
theorem pickN_self {k n : Nat} (h : k < n) : pickN (k : Int) n = k := by
  unfold pickN
  have e : (k : Int).tmod (n : Int) = (k : Int) := by
    rw [Int.tmod_eq_emod_of_nonneg (by omega), Int.emod_eq_of_lt (by omega) (by omega)]
  rw [e, if_neg (by omega)]
  omega
/-- A word brought below the number of symbols. -/
def pickW (m : Nat) (W : List Int) : List Nat := if m = 0 then [] else W.map (pickN · m)
theorem pickW_ok (m : Nat) (W : List Int) : okW m (pickW m W) := by
  unfold pickW
  split
  · exact okW.nil m
  · intro c hc
    obtain ⟨z, _, rfl⟩ := List.mem_map.1 hc
    exact pickN_lt z m (by omega)
theorem pickW_self {m : Nat} {u : List Nat} (h : ∀ c ∈ u, c < m) : pickW m (nums u) = u := by
  unfold pickW
  split
  · cases u with
    | nil => rfl
    | cons c l => have := h c List.mem_cons_self; omega
  · unfold nums
    rw [List.map_map]
    conv => rhs; rw [← List.map_id u]
    exact List.map_congr_left (fun c hc => by show pickN ((c : Nat) : Int) m = c; exact pickN_self (h c hc))
/-- The state behind the first k symbols. -/
def stW (N : List (List Int)) (s m : Nat) (W : List Int) (k : Nat) : Nat := runW (nxF N) s ((W.take k).map (pickN · m))
theorem stW_succ {N : List (List Int)} {s m : Nat} {W : List Int} {k : Nat} (h : k < W.length) : stW N s m W (k + 1) = nxF N (stW N s m W k) (pickN W[k] m) := by
  unfold stW
  rw [List.take_succ_eq_append_getElem h, List.map_append, runW_append]
  rfl
theorem May.runs {st : Int} {N O : List (List Int)} {m : Nat} (h : May st N O m) {s : Nat} (hs : s < N.length) (w : List Nat) (hw : okW m w) : runW (nxF N) s w < N.length := runW_in (fun _x _c hx hc => (h.next hx hc).1) w s hs hw
theorem stW_lt {st : Int} {N O : List (List Int)} {s m : Nat} (h : May st N O m) (hs : s < N.length) (hm : 0 < m) (W : List Int) (k : Nat) : stW N s m W k < N.length := h.runs hs _ (fun c hc => by
  obtain ⟨z, _, rfl⟩ := List.mem_map.1 hc
  exact pickN_lt z m hm)
theorem stW_end {N : List (List Int)} {s m : Nat} {W : List Int} {k : Nat} (hm : 0 < m) (h : W.length ≤ k) : stW N s m W k = runW (nxF N) s (pickW m W) := by
  unfold stW pickW
  rw [if_neg (by omega), List.take_of_length_le h]
/-- A slice that tells a list. -/
def Tells (w : World) (v : Value) (L : List Int) : Prop := ∃ a c, v = .slice a L.length c ∧ IA w a L
theorem rwa_at {w : World} {a : Option Addr} {L : List (List Int)} (h : RwA w a L) {k : Nat} (hk : k < L.length) : ∃ b off, a = some ⟨b, off, none⟩ ∧ ∃ a1 c1, w.cell? ⟨b, off + k, none⟩ = some (.slice a1 (outF L k).length c1) ∧ IA w a1 (outF L k) := by
  obtain ⟨b, off, e, _, a1, c1, h1, h2⟩ := h.at' k hk
  have e2 : outF L k = L[k] := by unfold outF; rw [List.getD_eq_getElem?_getD, List.getElem?_eq_getElem hk]; rfl
  rw [e2]
  exact ⟨b, off, e, a1, c1, h1, h2⟩
end Go.Proofs.YtjmmckkiicefhaaDoor
namespace Go.Proofs.YtjmmckkiicefhaaDoor
open Go.RowKit Go.Shelf
theorem all_dropI {n : Nat} {L : List Int} {k : Nat} (h : k < L.length) : (L.drop k).all (oneOf n) = (oneOf n L[k] && (L.drop (k + 1)).all (oneOf n)) := by
  rw [List.drop_eq_getElem_cons h, List.all_cons]
set_option maxRecDepth 10000 in
set_option maxHeartbeats 1600000 in
theorem refMayBe_any (st sy : Int) (N O : List (List Int)) (aN aO : Option Addr) (cN cO : Nat) (w : World) (hN : N.length ≤ 17592186043904) (hNr : ∀ r ∈ N, r.length ≤ 17592186043904) (hOr : ∀ r ∈ O, r.length ≤ 17592186043904) (ha : RwA w aN N) (hb : RwA w aO O) :
    Calls Tryd.prog 14 #[.agg #[.int .i64 st, .slice aN N.length cN, .slice aO O.length cO], .int .i64 sy] w fun e w' => e = .returned (.bool (mayF st N O sy)) ∧ Below w.heap.size w w' := by
  obtain ⟨w0, hw0⟩ : ∃ w0, w0 = w.alloc (.cells #[.int .i64 st, .slice aN N.length cN, .slice aO O.length cO] 24) := ⟨_, rfl⟩
  have hB0 : Below w.heap.size w w0 := by rw [hw0]; exact (Below.refl _ _).alloc (Nat.le_refl _) _
  have hX0 : w0.heap[w.heap.size]? = some (.cells #[.int .i64 st, .slice aN N.length cN, .slice aO O.length cO] 24 (0, 0)) := by rw [hw0]; exact heap_alloc_new w _
  have HB0 := hid0 hB0
  have HA := hid0 (ha.past hB0)
  have HB := hid0 (hb.past hB0)
  have x0 : w0.cell? ⟨w.heap.size, 0, none⟩ = some (.int .i64 st) := by rw [cell_of_row _ _ _ _ _ _ hX0]; rfl
  have x1 : w0.cell? ⟨w.heap.size, 1, none⟩ = some (.slice aN N.length cN) := by rw [cell_of_row _ _ _ _ _ _ hX0]; rfl
  have x2 : w0.cell? ⟨w.heap.size, 2, none⟩ = some (.slice aO O.length cO) := by rw [cell_of_row _ _ _ _ _ _ hX0]; rfl
  have HNr := hid0 hNr
  have HOr := hid0 hOr
  clear ha hb hB0 hX0 hNr hOr
  have hfold := hw0.symm
  clear hw0
  by_cases h1 : sy < 0
  case pos =>
    have HV : Hid (mayF st N O sy = false) := hid0 (by unfold mayF; rw [decide_eq_false (by omega)]; rfl)
    go_enter Tryd.func14, Tryd.ntmps14
    go_wp2
    go_ret
    exact ⟨by rw [HV.out]; rfl, HB0.out⟩
  by_cases h4 : (N.length : Int) < 1
  case pos =>
    have HV : Hid (mayF st N O sy = false) := hid0 (by unfold mayF; rw [(oneOf_not _ _).2 (fun q => by omega), Bool.and_false]; rfl)
    go_enter Tryd.func14, Tryd.ntmps14
    go_wp2
    go_ret
    exact ⟨by rw [HV.out]; rfl, HB0.out⟩
  by_cases h2 : (O.length : Int) = (N.length : Int)
  case neg =>
    have HV : Hid (mayF st N O sy = false) := hid0 (by unfold mayF; rw [decide_eq_false (p := O.length = N.length) (by omega), Bool.and_false]; rfl)
    go_enter Tryd.func14, Tryd.ntmps14
    go_wp2
    go_ret
    exact ⟨by rw [HV.out]; rfl, HB0.out⟩
  by_cases h5 : st < 0
  case pos =>
    have HV : Hid (mayF st N O sy = false) := hid0 (by unfold mayF; rw [(oneOf_not _ _).2 (fun q => by omega), Bool.and_false]; rfl)
    go_enter Tryd.func14, Tryd.ntmps14
    go_wp2
    go_ret
    exact ⟨by rw [HV.out]; rfl, HB0.out⟩
  by_cases h6 : st ≥ (N.length : Int)
  case pos =>
    have HV : Hid (mayF st N O sy = false) := hid0 (by unfold mayF; rw [(oneOf_not _ _).2 (fun q => by omega), Bool.and_false]; rfl)
    go_enter Tryd.func14, Tryd.ntmps14
    go_wp2
    go_ret
    exact ⟨by rw [HV.out]; rfl, HB0.out⟩
  have HL : Hid (O.length = N.length) := hid0 (by omega)
  have HV0 : Hid (mayF st N O sy = mayR N O sy 0) := hid0 (mayF_R (by omega) HL.out ((oneOf_iff _ _).2 ⟨by omega, by omega⟩))
  go_enter Tryd.func14, Tryd.ntmps14
  go_wp2
  go_loopw [6] (fun i wr => ∃ k : Nat, k ≤ N.length ∧ i = .int .i64 (k : Int) ∧ (∃ n, wr = w0.drewN n) ∧ Hid (mayR N O sy k = mayF st N O sy)) (fun i _ => N.length - (intOf i).toNat)
  case atStart => exact ⟨0, Nat.zero_le _, rfl, ⟨0, rfl⟩, hid0 HV0.out.symm⟩
  case round =>
    obtain ⟨k, hk, rfl, ⟨nd, rfl⟩, HD⟩ := hrel
    by_cases hlt : k < N.length
    · obtain ⟨b, off, rfl, _, a1, c1, d1, i1⟩ := HA.out.at' k hlt
      have hlO : k < O.length := by have := HL.out; omega
      obtain ⟨b2, off2, rfl, _, a2, c2, d2, i2⟩ := HB.out.at' k hlO
      have hkI : (k : Int) < (N.length : Int) := by omega
      have hkO : (k : Int) < (O.length : Int) := by omega
      have hkI0 : (0 : Int) ≤ (k : Int) := by omega
      have HS := hid0 (mayR_step (m := sy) hlt hlO)
      have hrl := HNr.out _ (List.getElem_mem hlt)
      have HI1 := hid0 i1
      have HC2 := hid0 (refRises_any O[k] a2 c2 (w0.drewN nd) (HOr.out _ (List.getElem_mem hlO)) (i2.past (below_drew' (Below.refl _ _) nd)))
      clear i1 i2
      generalize N[k] = r at *
      generalize O[k] = o at *
      by_cases g1 : (r.length : Int) = sy
      · cases g3 : upF 0 o with
        | false =>
          have HV : Hid (mayF st N O sy = false) := hid0 (by rw [← HD.out, HS.out, g3, Bool.and_false]; rfl)
          rw [g3] at HC2
          clear g3 HS HD
          go_wp2_with (go_at_call 24; refine HC2.out.mono ?_; rintro e w1 ⟨rfl, nq, hw⟩; rw [World.drewN_drewN] at hw; subst hw)
          go_ret
          exact ⟨by rw [HV.out]; rfl, below_drew' HB0.out _⟩
        | true =>
          rw [g3] at HC2
          have HS2 : Hid (mayF st N O sy = (r.all (oneOf N.length) && mayR N O sy (k + 1))) := hid0 (by rw [← HD.out, HS.out, g3, decide_eq_true g1, Bool.true_and, Bool.and_true])
          clear g3 HS HD
          go_wp2_with (go_at_call 24; refine HC2.out.mono ?_; rintro e w1 ⟨rfl, nq, hw⟩; rw [World.drewN_drewN] at hw; subst hw)
          go_loopw [8] (fun i wr => ∃ j : Nat, j ≤ r.length ∧ i = .int .i64 (j : Int) ∧ wr = w0.drewN (nd + nq) ∧ Hid ((r.drop j).all (oneOf N.length) = r.all (oneOf N.length))) (fun i _ => r.length - (intOf i).toNat)
          case atStart => exact ⟨0, Nat.zero_le _, rfl, rfl, hid0 rfl⟩
          case round =>
            obtain ⟨j, hj, rfl, rfl, HE⟩ := hrel
            by_cases hjl : j < r.length
            · obtain ⟨b3, off3, rfl, _, d3⟩ := HI1.out.at' j hjl
              have hjI : (j : Int) < (r.length : Int) := by omega
              have hjS : (j : Int) < sy := by omega
              have hjI0 : (0 : Int) ≤ (j : Int) := by omega
              have HT := hid0 (all_dropI (n := N.length) hjl)
              generalize r[j] = z at *
              by_cases q1 : z < 0
              · have HV : Hid (mayF st N O sy = false) := hid0 (by rw [HS2.out, ← HE.out, HT.out, (oneOf_not _ _).2 (fun q => by omega)]; rfl)
                clear HT HE
                go_wp2
                go_ret
                exact ⟨by rw [HV.out]; rfl, below_drew' HB0.out _⟩
              · by_cases q2 : z ≥ (N.length : Int)
                · have HV : Hid (mayF st N O sy = false) := hid0 (by rw [HS2.out, ← HE.out, HT.out, (oneOf_not _ _).2 (fun q => by omega)]; rfl)
                  clear HT HE
                  go_wp2
                  go_ret
                  exact ⟨by rw [HV.out]; rfl, below_drew' HB0.out _⟩
                · have HE2 : Hid ((r.drop (j + 1)).all (oneOf N.length) = r.all (oneOf N.length)) := hid0 (by rw [← HE.out, HT.out, (oneOf_iff _ _).2 ⟨by omega, by omega⟩, Bool.true_and])
                  clear HT HE
                  go_wp2
                  go_roundw
                  case rel => exact ⟨j + 1, by omega, by go_num, trivial, HE2⟩
                  case measure => simp [intOf]; omega
            · have hjS : ¬ (j : Int) < sy := by omega
              have HV : Hid (mayR N O sy (k + 1) = mayF st N O sy) := hid0 (by rw [HS2.out, ← HE.out, List.drop_eq_nil_of_le (by omega)]; rfl)
              clear HE
              go_wp2
              go_roundw
              case rel => exact ⟨k + 1, by omega, by go_num, ⟨_, rfl⟩, HV⟩
              case measure => simp [intOf]; omega
      · have HV : Hid (mayF st N O sy = false) := hid0 (by rw [← HD.out, HS.out, decide_eq_false g1]; rfl)
        clear HS HD
        cases g3 : upF 0 o with
        | false =>
          rw [g3] at HC2
          clear g3
          go_wp2_with (go_at_call 24; refine HC2.out.mono ?_; rintro e w1 ⟨rfl, nq, hw⟩; rw [World.drewN_drewN] at hw; subst hw)
          go_ret
          exact ⟨by rw [HV.out]; rfl, below_drew' HB0.out _⟩
        | true =>
          rw [g3] at HC2
          clear g3
          go_wp2_with (go_at_call 24; refine HC2.out.mono ?_; rintro e w1 ⟨rfl, nq, hw⟩; rw [World.drewN_drewN] at hw; subst hw)
          go_ret
          exact ⟨by rw [HV.out]; rfl, below_drew' HB0.out _⟩
    · have hkI : ¬ (k : Int) < (N.length : Int) := by omega
      have HV : Hid (mayF st N O sy = true) := hid0 (by rw [← HD.out]; exact mayR_end (by omega) (by have := HL.out; omega))
      clear HD
      go_wp2
      go_ret
      exact ⟨by rw [HV.out]; rfl, below_drew' HB0.out _⟩
end Go.Proofs.YtjmmckkiicefhaaDoor
namespace Go.Proofs.YtjmmckkiicefhaaDoor
open Go.RowKit Go.Shelf
/-- A case of layer 13, in a box. -/
structure CBox (w : World) (X : Nat) (sa sb sy : Int) (vN vO vM vP vW : Value) : Prop where
  r : w.heap[X]? = some (.cells #[.int .i64 sa, vN, vO, .int .i64 sb, vM, vP, .int .i64 sy, vW] 27 (0, 0))
theorem CBox.c {w : World} {X : Nat} {sa sb sy : Int} {vN vO vM vP vW : Value} (h : CBox w X sa sb sy vN vO vM vP vW) : w.cell? ⟨X, 0, none⟩ = some (.int .i64 sa) ∧ w.cell? ⟨X, 1, none⟩ = some vN ∧ w.cell? ⟨X, 2, none⟩ = some vO ∧ w.cell? ⟨X, 6, none⟩ = some (.int .i64 sy) ∧ w.cell? ⟨X, 7, none⟩ = some vW := by
  refine ⟨?_, ?_, ?_, ?_, ?_⟩ <;> (rw [cell_of_row _ _ _ _ _ _ h.r]; rfl)
theorem CBox.past {w w' : World} {X : Nat} {sa sb sy : Int} {vN vO vM vP vW : Value} (h : CBox w X sa sb sy vN vO vM vP vW) (hb : Below w.heap.size w w') : CBox w' X sa sb sy vN vO vM vP vW := ⟨(hb.block _ (Array.getElem?_eq_some_iff.1 h.r).1).trans h.r⟩
theorem below_refl0 (w : World) : Below w.heap.size w w := Below.refl _ _
theorem SmlO.big {N O : List (List Int)} (h : SmlO N O) : N.length ≤ 17592186043904 ∧ (∀ r ∈ N, r.length ≤ 17592186043904) ∧ ∀ r ∈ O, r.length ≤ 17592186043904 := ⟨by have := h.n; omega, fun r hr => by have := h.nr r hr; omega, fun r hr => by have := h.or r hr; omega⟩
theorem outF_le {O : List (List Int)} {s : Nat} (h : ∀ r ∈ O, r.length ≤ 2200000) : (outF O s).length ≤ 2200000 := by
  unfold outF
  rw [List.getD_eq_getElem?_getD]
  by_cases hs : s < O.length
  · rw [List.getElem?_eq_getElem hs]
    exact h _ (List.getElem_mem hs)
  · rw [List.getElem?_eq_none (by omega)]
    exact Nat.zero_le _
end Go.Proofs.YtjmmckkiicefhaaDoor
namespace Go.Proofs.YtjmmckkiicefhaaDoor
open Go.RowKit Go.Shelf
/-- A machine is laid into the result's cells. -/
structure LaidZ (W v1 v2 v3 : World) (R : Nat) (y a b : Value) : Prop where
  g1 : W.setCell ⟨R, 0, none⟩ y = v1
  g2 : v1.setCell ⟨R, 1, none⟩ a = v2
  g3 : v2.setCell ⟨R, 2, none⟩ b = v3
  z : W.cell? ⟨R, 0, none⟩ = some (.int .i64 0) ∧ W.cell? ⟨R, 1, none⟩ = some (.slice none 0 0) ∧ W.cell? ⟨R, 2, none⟩ = some (.slice none 0 0)
  a1 : v1.cell? ⟨R, 1, none⟩ = some (.slice none 0 0)
  a2 : v2.cell? ⟨R, 2, none⟩ = some (.slice none 0 0)
  f0 : ∀ k, W.frozen? ⟨R, k, none⟩ = false
  f1 : ∀ k, v1.frozen? ⟨R, k, none⟩ = false
  f2 : ∀ k, v2.frozen? ⟨R, k, none⟩ = false
  r : v3.heap[R]? = some (.cells #[y, a, b] 24 (0, 0))
  only : Only W v3 (fun k => k = R)
theorem laidZ {W : World} {R : Nat} (z a b : Value) (hrb : W.heap[R]? = some (.cells #[.int .i64 0, .slice none 0 0, .slice none 0 0] 24 (0, 0))) : ∃ v1 v2 v3, LaidZ W v1 v2 v3 R z a b := by
  have r1 := heap_setCell_same W R 0 _ _ z hrb
  have r2 := heap_setCell_same _ R 1 _ _ a r1
  have r3 := heap_setCell_same _ R 2 _ _ b r2
  refine ⟨_, _, _, rfl, rfl, rfl, ⟨?_, ?_, ?_⟩, ?_, ?_, fun k => by simp [World.frozen?, hrb], fun k => by simp [World.frozen?, r1], fun k => by simp [World.frozen?, r2], r3, ((Only.setCell _ _ _ _).trans (Only.setCell _ _ _ _) (fun _ h => .inl h)).trans (Only.setCell _ _ _ _) (fun _ h => .inl h)⟩
  all_goals first
    | (rw [cell_of_row _ _ _ _ _ _ hrb]; rfl)
    | (rw [cell_of_row _ _ _ _ _ _ r1]; rfl)
    | (rw [cell_of_row _ _ _ _ _ _ r2]; rfl)
theorem mayF_start {N O : List (List Int)} {m : Int} {st : Int} (h : mayF st N O m = true) {s : Nat} (hs : s < N.length) : mayF (s : Int) N O m = true := by
  unfold mayF at h ⊢
  simp only [Bool.and_eq_true, decide_eq_true_eq] at h ⊢
  exact ⟨⟨⟨h.1.1.1, (oneOf_iff _ _).2 ⟨by omega, by omega⟩⟩, h.1.2⟩, h.2⟩
/-- Two states of a least machine are told apart. -/
theorem Red.split {m : Nat} {N O : List (List Int)} (h : Red m N O) {a b : Nat} (ha : a < N.length) (hb : b < N.length) (hne : a ≠ b) : ∃ u, ApR (a : Int) (b : Int) (m : Int) N O N O (some (some u)) ∧ okW m u ∧ outF O (runW (nxF N) a u) ≠ outF O (runW (nxF N) b u) := by
  obtain ⟨res, hr⟩ := apR_ex (a : Int) (b : Int) (m : Int) N O N O
  have m1 := mayF_start h.may ha
  have m2 := mayF_start h.may hb
  cases hr with
  | bad h => exact (h m1 m2).elim
  | good m' r hm h1 h2 h3 h4 hA =>
    obtain rfl : m = m' := by omega
    cases r with
    | none =>
      exfalso
      refine hne (h.sep a b ha hb (fun z hz => ?_))
      apply Classical.byContradiction
      intro hd
      exact hA.none' rfl z hz hd
    | some u =>
      refine ⟨u, .good m (some u) hm h1 h2 h3 h4 hA, (hA.some' u rfl).ok, ?_⟩
      have := (hA.some' u rfl).dis
      exact this
theorem SmlO.sml {N O : List (List Int)} (h : SmlO N O) : Sml N O := ⟨h.n, h.nr, h.or⟩
theorem nums_at {u : List Nat} {m : Nat} (h : okW m u) (i : Nat) (hi : i < (nums u).length) : ∃ c : Nat, (nums u)[i] = (c : Int) ∧ c < m := by
  unfold nums at hi ⊢
  rw [List.length_map] at hi
  exact ⟨u[i], by rw [List.getElem_map]; rfl, h _ (List.getElem_mem hi)⟩
/-- How many states are met. -/
theorem Red.seen {m : Nat} {N O : List (List Int)} (h : Red m N O) : top (clF N m) (N.length * m) + 1 = N.length := by
  have h0 := h.pos
  have h1 : top (clF N m) (N.length * m) < N.length := top_lt h0 (fun j hj => clF_lt h.may' hj)
  have h2 := h.bfs.row (N.length - 1) (by omega)
  have h3 := top_mono (clF N m) (Nat.mul_le_mul_right m (show N.length - 1 ≤ N.length by omega))
  omega
theorem Red.next {m : Nat} {N O : List (List Int)} (h : Red m N O) {s c : Nat} (hs : s < N.length) (hc : c < m) : nxF N s c ≤ top (clF N m) (s * m + c) + 1 ∧ s < top (clF N m) (s * m + c) + 1 ∧ top (clF N m) (s * m + (c + 1)) = max (top (clF N m) (s * m + c)) (nxF N s c) := by
  have hi : s * m + c < N.length * m := by
    have := Nat.mul_le_mul_right m (show s + 1 ≤ N.length by omega)
    rw [Nat.succ_mul] at this
    omega
  have h1 := h.bfs.up _ hi
  rw [clF_at N s hc] at h1
  have h2 := h.bfs.row s hs
  have h3 := top_mono (clF N m) (show s * m ≤ s * m + c by omega)
  refine ⟨h1, by omega, ?_⟩
  rw [← Nat.add_assoc, top_succ, clF_at N s hc]
end Go.Proofs.YtjmmckkiicefhaaDoor
namespace Go.Proofs.YtjmmckkiicefhaaDoor
open Go.RowKit Go.Shelf
theorem infoBool : (Tryd.prog.info? 4).map (fun i => (i.zero, i.size, i.bytes)) = some (some (.bool false), 1, 1) := by kernel_rfl
def OwnBo (w : World) (base : Nat) (v : Value) (B : List Bool) : Prop := w.ownsRow base 4 1 v B.length (B.map Value.bool)
/-- All numbers below n, each once. -/
structure Prm (n : Nat) (Q : List Nat) : Prop where
  once : Q.Nodup
  lt : ∀ x ∈ Q, x < n
  all : ∀ x, x < n → x ∈ Q
/-- The numbers taken so far, and which are. -/
structure OrdI (n : Nat) (Q : List Nat) (B : List Bool) : Prop where
  len : B.length = n
  once : Q.Nodup
  lt : ∀ x ∈ Q, x < n
  is : ∀ k, k < n → (B.getD k false = true ↔ k ∈ Q)
theorem OrdI.zero (n : Nat) : OrdI n [] (List.replicate n false) := ⟨by simp, List.nodup_nil, (fun x h => by cases h), fun k hk => by
  rw [List.getD_eq_getElem?_getD, List.getElem?_replicate]
  simp [hk]⟩
theorem OrdI.add {n : Nat} {Q : List Nat} {B : List Bool} (h : OrdI n Q B) {p : Nat} (hp : p < n) (hb : B.getD p false = false) : OrdI n (Q ++ [p]) (B.set p true) := by
  have hnp : p ∉ Q := fun hm => by have := (h.is p hp).2 hm; rw [hb] at this; cases this
  refine ⟨by rw [List.length_set]; exact h.len, ?_, fun x hx => ?_, fun k hk => ?_⟩
  · rw [List.nodup_append]
    refine ⟨h.once, by simp, fun a ha b hb' => ?_⟩
    rw [List.mem_singleton] at hb'
    rw [hb']
    exact fun e => hnp (e ▸ ha)
  · rcases List.mem_append.1 hx with hx | hx
    · exact h.lt x hx
    · rw [List.mem_singleton] at hx; rw [hx]; exact hp
  · have hl := h.len
    rw [List.getD_eq_getElem?_getD, List.getElem?_set, List.mem_append, List.mem_singleton]
    by_cases e : p = k
    · subst e
      rw [if_pos rfl, if_pos (by omega)]
      simp
    · rw [if_neg e, ← List.getD_eq_getElem?_getD, h.is k hk]
      constructor
      · exact fun h => .inl h
      · rintro (h | h)
        · exact h
        · exact absurd h.symm e
/-- The rest, in their order. -/
structure OrdR (n i : Nat) (Q : List Nat) (B : List Bool) : Prop where
  once : Q.Nodup
  lt : ∀ x ∈ Q, x < n
  past : ∀ k, k < i → k ∈ Q
  rest : ∀ k, i ≤ k → k < n → (B.getD k false = true ↔ k ∈ Q)
theorem OrdI.rest {n : Nat} {Q : List Nat} {B : List Bool} (h : OrdI n Q B) : OrdR n 0 Q B := ⟨h.once, h.lt, fun _k hk => absurd hk (Nat.not_lt_zero _), fun k _ hk => h.is k hk⟩
theorem OrdR.step {n i : Nat} {Q : List Nat} {B : List Bool} (h : OrdR n i Q B) (hi : i < n) (hb : B.getD i false = true) : OrdR n (i + 1) Q B := ⟨h.once, h.lt, fun k hk => by
  by_cases e : k = i
  · rw [e]; exact (h.rest i (Nat.le_refl _) hi).1 hb
  · exact h.past k (by omega), fun k h1 h2 => h.rest k (by omega) h2⟩
theorem OrdR.take {n i : Nat} {Q : List Nat} {B : List Bool} (h : OrdR n i Q B) (hi : i < n) (hb : B.getD i false = false) : OrdR n (i + 1) (Q ++ [i]) B := by
  have hnp : i ∉ Q := fun hm => by have := (h.rest i (Nat.le_refl _) hi).2 hm; rw [hb] at this; cases this
  refine ⟨?_, fun x hx => ?_, fun k hk => ?_, fun k h1 h2 => ?_⟩
  · rw [List.nodup_append]
    refine ⟨h.once, by simp, fun a ha b hb' => ?_⟩
    rw [List.mem_singleton] at hb'
    rw [hb']
    exact fun e => hnp (e ▸ ha)
  · rcases List.mem_append.1 hx with hx | hx
    · exact h.lt x hx
    · rw [List.mem_singleton] at hx; rw [hx]; exact hi
  · rw [List.mem_append, List.mem_singleton]
    by_cases e : k = i
    · exact .inr e
    · exact .inl (h.past k (by omega))
  · rw [List.mem_append, List.mem_singleton, h.rest k (by omega) h2]
    constructor
    · exact fun h => .inl h
    · rintro (h | h)
      · exact h
      · omega
theorem OrdR.done {n : Nat} {Q : List Nat} {B : List Bool} (h : OrdR n n Q B) : Prm n Q := ⟨h.once, h.lt, h.past⟩
theorem Prm.len {n : Nat} {Q : List Nat} (h : Prm n Q) : Q.length = n := by
  refine Nat.le_antisymm (nodup_le n Q h.once h.lt) ?_
  have := nodup_le Q.length ((List.range n).map (fun x => Q.idxOf x)) ?_ ?_
  · simpa using this
  · refine List.pairwise_map.2 (List.Pairwise.imp_of_mem ?_ List.nodup_range)
    intro a b ha hb hne e
    have h1 := h.all a (List.mem_range.1 ha)
    have h2 := h.all b (List.mem_range.1 hb)
    have e1 := List.getElem_idxOf (List.idxOf_lt_length_of_mem h1)
    have e2 := List.getElem_idxOf (List.idxOf_lt_length_of_mem h2)
    apply hne
    rw [← e1, ← e2]
    simp only [e]
  · intro x hx
    obtain ⟨y, hy, rfl⟩ := List.mem_map.1 hx
    exact List.idxOf_lt_length_of_mem (h.all y (List.mem_range.1 hy))
end Go.Proofs.YtjmmckkiicefhaaDoor
namespace Go.Proofs.YtjmmckkiicefhaaDoor
/-- Whose double a state is. -/
def dbF (Q : List Nat) (i : Nat) : Nat := Q.getD (i % Q.length) 0
def dbC (N : List (List Int)) (Q : List Nat) (i c : Nat) : Nat := Q.idxOf (nxF N (dbF Q i) c) + Q.length * ((i + c) % 2)
def dbN (N : List (List Int)) (Q : List Nat) (m : Nat) : List (List Int) := (List.range (2 * Q.length)).map fun i => (List.range m).map fun c => ((dbC N Q i c : Nat) : Int)
def dbO (O : List (List Int)) (Q : List Nat) : List (List Int) := (List.range (2 * Q.length)).map fun i => outF O (dbF Q i)
theorem Prm.at {n : Nat} {Q : List Nat} (h : Prm n Q) {y : Nat} (hy : y < n) : Q.idxOf y < Q.length ∧ Q.getD (Q.idxOf y) 0 = y := by
  have h1 := List.idxOf_lt_length_of_mem (h.all y hy)
  exact ⟨h1, by rw [List.getD_eq_getElem?_getD, List.getElem?_eq_getElem h1]; exact List.getElem_idxOf h1⟩
theorem Prm.get {n : Nat} {Q : List Nat} (h : Prm n Q) {i : Nat} (hi : i < Q.length) : Q.getD i 0 < n ∧ Q.idxOf (Q.getD i 0) = i := by
  have e : Q.getD i 0 = Q[i] := by rw [List.getD_eq_getElem?_getD, List.getElem?_eq_getElem hi]; rfl
  rw [e]
  exact ⟨h.lt _ (List.getElem_mem hi), h.once.idxOf_getElem i hi⟩
theorem dbF_lt {n : Nat} {Q : List Nat} (h : Prm n Q) (hn : 0 < n) (i : Nat) : dbF Q i < n := (h.get (Nat.mod_lt _ (by rw [h.len]; exact hn))).1
theorem dbN_at {N : List (List Int)} {Q : List Nat} {m i c : Nat} (hi : i < 2 * Q.length) (hc : c < m) : nxF (dbN N Q m) i c = dbC N Q i c := by
  have e : (dbN N Q m).getD i [] = (List.range m).map fun c => ((dbC N Q i c : Nat) : Int) := by
    rw [dbN, List.getD_eq_getElem?_getD, List.getElem?_map, List.getElem?_range hi]
    rfl
  rw [nxF, e, List.getD_eq_getElem?_getD, List.getElem?_map, List.getElem?_range hc]
  simp
theorem dbO_at {O : List (List Int)} {Q : List Nat} {i : Nat} (hi : i < 2 * Q.length) : outF (dbO O Q) i = outF O (dbF Q i) := by
  rw [outF, dbO, List.getD_eq_getElem?_getD, List.getElem?_map, List.getElem?_range hi]
  rfl
theorem dbC_lt {st : Int} {N O : List (List Int)} {m : Nat} (hm : May st N O m) {Q : List Nat} (h : Prm N.length Q) {i c : Nat} (hc : c < m) : dbC N Q i c < 2 * Q.length ∧ dbF Q (dbC N Q i c) = nxF N (dbF Q i) c := by
  have h0 : 0 < N.length := by have := hm.start; omega
  have h1 := (hm.next (dbF_lt h h0 i) hc).1
  obtain ⟨h2, h3⟩ := h.at h1
  have h4 : (i + c) % 2 = 0 ∨ (i + c) % 2 = 1 := by omega
  unfold dbC
  generalize nxF N (dbF Q i) c = y at *
  rcases h4 with e | e
  · rw [e, Nat.mul_zero, Nat.add_zero]
    refine ⟨by omega, ?_⟩
    unfold dbF
    rw [Nat.mod_eq_of_lt h2]
    exact h3
  · rw [e, Nat.mul_one]
    refine ⟨by omega, ?_⟩
    unfold dbF
    rw [Nat.add_mod_right, Nat.mod_eq_of_lt h2]
    exact h3
theorem dbl_len (N O : List (List Int)) (Q : List Nat) (m : Nat) : (dbN N Q m).length = 2 * Q.length ∧ (dbO O Q).length = 2 * Q.length := by
  unfold dbN dbO
  simp
theorem dbl_may {st : Int} {N O : List (List Int)} {m : Nat} (hmay : mayF st N O (m : Int) = true) {Q : List Nat} (h : Prm N.length Q) {s : Nat} (hs : s < 2 * Q.length) : mayF (s : Int) (dbN N Q m) (dbO O Q) (m : Int) = true := by
  obtain ⟨n', hn', hm⟩ := mayF_may hmay
  obtain rfl : m = n' := by omega
  have h0 : 0 < N.length := by have := hm.start; omega
  have hq := h.len
  obtain ⟨l1, l2⟩ := dbl_len N O Q m
  refine mayF_start (mayF_of (by omega) (by omega) ?_ ?_ ?_) (by omega)
  · intro r hr
    obtain ⟨i, hi, rfl⟩ := List.mem_map.1 hr
    simp
  · intro r hr z hz
    obtain ⟨i, hi, rfl⟩ := List.mem_map.1 hr
    obtain ⟨c, hc, rfl⟩ := List.mem_map.1 hz
    have := (dbC_lt hm h (i := i) (List.mem_range.1 hc)).1
    rw [l1]
    omega
  · intro r hr
    obtain ⟨i, hi, rfl⟩ := List.mem_map.1 hr
    have hlt := dbF_lt h h0 i
    have hlo : dbF Q i < O.length := by have := hm.out; omega
    have e : outF O (dbF Q i) = O[dbF Q i] := by rw [outF, List.getD_eq_getElem?_getD, List.getElem?_eq_getElem hlo]; rfl
    rw [e]
    exact upF_rise hmay _ (List.getElem_mem hlo)
theorem dbl_lang {s0 : Nat} {N O : List (List Int)} {m : Nat} (hm : May (s0 : Int) N O m) {Q : List Nat} (h : Prm N.length Q) : SameL m (nxF N) (nxF (dbN N Q m)) (outF O) (outF (dbO O Q)) s0 (Q.idxOf s0 + Q.length) := by
  have h0 : 0 < N.length := by have := hm.start; omega
  have hs : s0 < N.length := by have := hm.start; omega
  obtain ⟨h2, h3⟩ := h.at hs
  have hst : dbF Q (Q.idxOf s0 + Q.length) = s0 := by
    unfold dbF
    rw [Nat.add_mod_right, Nat.mod_eq_of_lt h2]
    exact h3
  intro u hu
  have hin : ∀ x c, x < 2 * Q.length → c < m → nxF (dbN N Q m) x c < 2 * Q.length := fun x c hx hc => by rw [dbN_at hx hc]; exact (dbC_lt hm h hc).1
  have hhom := runW_hom (φ := dbF Q) hin (fun x c hx hc => by rw [dbN_at hx hc]; exact (dbC_lt hm h hc).2.symm) u (Q.idxOf s0 + Q.length) (by omega) hu
  rw [hst] at hhom
  rw [dbO_at (runW_in hin u _ (by omega) hu), hhom]
/-- The double is small. -/
theorem dbl_sml {st : Int} {N O : List (List Int)} {m : Nat} (hm : May st N O m) {Q : List Nat} (h : Prm N.length Q) (h1 : 2 * N.length ≤ 2200000) (h2 : 2 * (N.length * m) ≤ 2200000) (h3 : m ≤ 2200000) (h4 : ∀ r ∈ O, r.length ≤ 2200000) (h5 : ∀ r ∈ O, ∀ z ∈ r, z < 9223372036854775808) : SmlO (dbN N Q m) (dbO O Q) := by
  have h0 : 0 < N.length := by have := hm.start; omega
  have hq := h.len
  obtain ⟨l1, l2⟩ := dbl_len N O Q m
  have hrow : ∀ r ∈ dbN N Q m, r.length = m := fun r hr => by
    obtain ⟨i, hi, rfl⟩ := List.mem_map.1 hr
    simp
  have hout : ∀ r ∈ dbO O Q, r ∈ O := fun r hr => by
    obtain ⟨i, hi, rfl⟩ := List.mem_map.1 hr
    have hlt := dbF_lt h h0 i
    have hlo : dbF Q i < O.length := by have := hm.out; omega
    have e : outF O (dbF Q i) = O[dbF Q i] := by rw [outF, List.getD_eq_getElem?_getD, List.getElem?_eq_getElem hlo]; rfl
    rw [e]
    exact List.getElem_mem hlo
  refine ⟨by omega, fun r hr => by rw [hrow r hr]; exact h3, fun r hr => h4 r (hout r hr), fun r hr => h5 r (hout r hr), fun k hk => ?_⟩
  have hp : 0 < (dbN N Q m).length := by omega
  have e1 := hk _ (List.getElem_mem hp)
  have e2 := hrow _ (List.getElem_mem hp)
  obtain rfl : k = m := by omega
  rw [l1, hq, Nat.mul_assoc]
  exact h2
end Go.Proofs.YtjmmckkiicefhaaDoor
namespace Go.Proofs.YtjmmckkiicefhaaDoor
open Go.RowKit Go.Shelf
/-- What a list that is put behind a machine's lists leaves alone. -/
structure FrM (W W' : World) (lo X : Nat) : Prop where
  os : W'.os = W.os
  tape : W'.tape = W.tape
  output : W'.output = W.output
  size : W.heap.size ≤ W'.heap.size
  keep : ∀ b c t, W.heap[b]? = some (.cells c t (0, 0)) → t ≠ 25 → b ≠ X → W'.heap[b]? = W.heap[b]?
  low : ∀ b, b < lo → b < W.heap.size → W'.heap[b]? = W.heap[b]?
theorem FrM.below {w W W' : World} {lo X : Nat} (h : FrM W W' lo X) (hb : Below lo w W) (hlo : lo ≤ w.heap.size) : Below lo w W' := ⟨h.os.trans hb.os, h.tape.trans hb.tape, h.output.trans hb.output, Nat.le_trans hb.size h.size, fun k hk => (h.low k hk (by have := hb.size; omega)).trans (hb.block k hk)⟩
theorem FrM.own {W W' : World} {lo lo2 X : Nat} {v : Value} {L : List Int} (h : FrM W W' lo X) (hX : ∃ c, W.heap[X]? = some (.cells c 24 (0, 0))) (ho : OwnI W lo2 v L) : OwnI W' lo2 v L := own_blk ho (fun k hk => by
  obtain ⟨c, hc⟩ := own_ty ho hk
  obtain ⟨c2, hc2⟩ := hX
  exact h.keep k c _ hc (by decide) (blk_ne hc hc2 (by decide)))
structure MkM (W : World) (lo X : Nat) (st : Int) (vN vO : Value) (pN pO : Lot) : Prop where
  box : W.heap[X]? = some (.cells #[.int .i64 st, vN, vO] 24 (0, 0))
  bN : Bag W lo vN pN
  bO : Bag W lo vO pO
  away : ∀ g, vN.ownBlock = some g → vO.ownBlock ≠ some g
  loX : lo ≤ X
theorem MkM.past {W W' : World} {lo X : Nat} {st : Int} {vN vO : Value} {pN pO : Lot} (h : MkM W lo X st vN vO pN pO) (hb : Below W.heap.size W W') : MkM W' lo X st vN vO pN pO := ⟨(hb.block _ (Array.getElem?_eq_some_iff.1 h.box).1).trans h.box, h.bN.later hb, h.bO.later hb, h.away, h.loX⟩
theorem mkM_new {W : World} {lo X : Nat} {st : Int} (hb : W.heap[X]? = some (.cells #[.int .i64 st, .slice none 0 0, .slice none 0 0] 24 (0, 0))) (hl : lo ≤ X) : MkM W lo X st (.slice none 0 0) (.slice none 0 0) [] [] := ⟨hb, Bag.nil _ _, Bag.nil _ _, (fun g h => by cases h), hl⟩
/-- A bag to which a row of one's own is put. -/
theorem Bag.snoc2 {wr w1 : World} {base : Nat} {v v' x : Value} {ps : Lot} {l : List Int} {o : Obj} (h : Bag wr base v ps) (hx : OwnI wr base x l) (hxr : ∀ y ∈ ps, ∀ g, y.1.ownBlock = some g → x.ownBlock ≠ some g)
    (hown' : w1.ownsRow base 25 1 v' (ps.length + 1) (ps.map (·.1) ++ [x])) (hgrow : (wr.alloc o).grownBy w1 v.ownBlock) (hat : v'.ownBlock = v.ownBlock ∨ v'.ownBlock = some (wr.alloc o).heap.size) : Bag w1 base v' (ps ++ [(x, l)]) := by
  have ty : ∀ {u : Value} {m : List Int} {b g : Nat}, OwnI wr b u m → v.ownBlock = some g → u.ownBlock ≠ some g := fun hu hg hug => by
    obtain ⟨c1, k1⟩ := own_ty hu hug
    obtain ⟨c2, k2⟩ := own_ty h.outer hg
    exact blk_ne k1 k2 (by decide) rfl
  have old : ∀ (u : Value) (m : List Int) (b : Nat), OwnI wr b u m → OwnI w1 b u m := fun u m b hu => by
    refine World.ownsRow.kept (World.ownsRow.alloc hu o) hgrow ?_
    cases e : u.ownBlock with
    | none => exact .inl rfl
    | some g => exact .inr fun hc => ty hu hc.symm e
  refine ⟨?_, ?_, ?_, ?_⟩
  · rw [List.length_append, List.map_append]
    exact hown'
  · intro y hy
    rcases List.mem_append.1 hy with hy | hy
    · exact old _ _ _ (h.row y hy)
    · rw [List.mem_singleton] at hy
      subst hy
      exact old _ _ _ hx
  · rw [List.pairwise_append]
    refine ⟨h.apart, List.pairwise_singleton _ _, ?_⟩
    intro y hy z hz g hg hzg
    rw [List.mem_singleton] at hz
    subst hz
    exact hxr y hy g hg hzg
  · intro y hy g hg hyg
    have hlt : g < wr.heap.size := by
      rcases List.mem_append.1 hy with hy | hy
      · exact (World.ownsRow.lt (h.row y hy) g hyg).2
      · rw [List.mem_singleton] at hy
        subst hy
        exact (World.ownsRow.lt hx g hyg).2
    rcases hat with hat | hat
    · rw [hat] at hg
      rcases List.mem_append.1 hy with hy | hy
      · exact ty (h.row y hy) hg hyg
      · rw [List.mem_singleton] at hy
        subst hy
        exact ty hx hg hyg
    · rw [hat] at hg
      simp at hg
      omega
theorem grown_fr {wr w1 : World} {o : Obj} {lo X n : Nat} {off : Nat} {v u : Value} {xs : List Value} (hv : wr.ownsRow lo 25 1 v n xs) (hgrow : (wr.alloc o).grownBy w1 v.ownBlock) (hloX : lo ≤ X) : FrM wr (w1.setCell ⟨X, off, none⟩ u) lo X := by
  have key : ∀ b, b < wr.heap.size → v.ownBlock ≠ some b → b ≠ X → (w1.setCell ⟨X, off, none⟩ u).heap[b]? = wr.heap[b]? := fun b hb hne hbX => by
    rw [Below.heap_setCell _ _ _ _ hbX]
    rw [hgrow.block b (by simp; omega) (fun e => hne e.symm)]
    exact Below.heap_alloc wr o b hb
  refine ⟨?_, ?_, ?_, ?_, fun b c t hb ht hbX => ?_, fun b hb hbs => ?_⟩
  · exact hgrow.os
  · exact hgrow.tape
  · exact hgrow.output
  · have := hgrow.size
    simp [World.setCell] at this ⊢
    omega
  · refine key b (Array.getElem?_eq_some_iff.1 hb).1 (fun hv2 => ?_) hbX
    obtain ⟨c2, k2⟩ := own_ty hv hv2
    exact blk_ne hb k2 ht rfl
  · refine key b hbs (fun hv2 => ?_) (by omega)
    have := (World.ownsRow.lt hv b hv2).1
    omega
theorem MkM.addN {wr w1 : World} {lo X : Nat} {st : Int} {vN vO v' x : Value} {pN pO : Lot} {l : List Int} {o : Obj} (h : MkM wr lo X st vN vO pN pO) (hx : OwnI wr lo x l) (hxr : ∀ y ∈ pN, ∀ g, y.1.ownBlock = some g → x.ownBlock ≠ some g)
    (hown' : w1.ownsRow lo 25 1 v' (pN.length + 1) (pN.map (·.1) ++ [x])) (hgrow : (wr.alloc o).grownBy w1 vN.ownBlock) (hat : v'.ownBlock = vN.ownBlock ∨ v'.ownBlock = some (wr.alloc o).heap.size) :
    w1.heap[X]? = some (.cells #[.int .i64 st, vN, vO] 24 (0, 0)) ∧ MkM (w1.setCell ⟨X, 1, none⟩ v') lo X st v' vO (pN ++ [(x, l)]) pO ∧ FrM wr (w1.setCell ⟨X, 1, none⟩ v') lo X := by
  have hfr : FrM wr (w1.setCell ⟨X, 1, none⟩ v') lo X := grown_fr h.bN.outer hgrow h.loX
  have hXlt := (Array.getElem?_eq_some_iff.1 h.box).1
  have hb1 : w1.heap[X]? = some (.cells #[.int .i64 st, vN, vO] 24 (0, 0)) := by
    rw [hgrow.block X (by simp; omega) (fun hv => by
      obtain ⟨c2, k2⟩ := own_ty h.bN.outer hv.symm
      exact blk_ne h.box k2 (by decide) rfl), Below.heap_alloc wr o X hXlt]
    exact h.box
  have hO : ∀ k, vO.ownBlock = some k → w1.heap[k]? = wr.heap[k]? := fun k hk => by
    have hlt := (World.ownsRow.lt h.bO.outer k hk).2
    rw [hgrow.block k (by simp; omega) (fun hv => h.away k hv.symm hk), Below.heap_alloc wr o k hlt]
  have bO1 : Bag w1 lo vO pO := ⟨own_blk h.bO.outer hO, fun y hy => own_blk (h.bO.row y hy) (fun k hk => by
    have hlt := (World.ownsRow.lt (h.bO.row y hy) k hk).2
    rw [hgrow.block k (by simp; omega) (fun hv => by
      obtain ⟨c1, k1⟩ := own_ty (h.bO.row y hy) hk
      obtain ⟨c2, k2⟩ := own_ty h.bN.outer hv.symm
      exact blk_ne k1 k2 (by decide) rfl), Below.heap_alloc wr o k hlt]), h.bO.apart, h.bO.away⟩
  have bN1 := h.bN.snoc2 hx hxr hown' hgrow hat
  refine ⟨hb1, ⟨heap_setCell_same w1 X 1 _ _ v' hb1, bN1.only2 (Only.setCell w1 X 1 v') hb1, bO1.only2 (Only.setCell w1 X 1 v') hb1, fun g hg hO2 => ?_, h.loX⟩, hfr⟩
  rcases hat with hat | hat
  · rw [hat] at hg
    exact h.away g hg hO2
  · rw [hat] at hg
    have := (World.ownsRow.lt h.bO.outer g hO2).2
    simp at hg
    omega
theorem MkM.addO {wr w1 : World} {lo X : Nat} {st : Int} {vN vO v' x : Value} {pN pO : Lot} {l : List Int} {o : Obj} (h : MkM wr lo X st vN vO pN pO) (hx : OwnI wr lo x l) (hxr : ∀ y ∈ pO, ∀ g, y.1.ownBlock = some g → x.ownBlock ≠ some g)
    (hown' : w1.ownsRow lo 25 1 v' (pO.length + 1) (pO.map (·.1) ++ [x])) (hgrow : (wr.alloc o).grownBy w1 vO.ownBlock) (hat : v'.ownBlock = vO.ownBlock ∨ v'.ownBlock = some (wr.alloc o).heap.size) :
    w1.heap[X]? = some (.cells #[.int .i64 st, vN, vO] 24 (0, 0)) ∧ MkM (w1.setCell ⟨X, 2, none⟩ v') lo X st vN v' pN (pO ++ [(x, l)]) ∧ FrM wr (w1.setCell ⟨X, 2, none⟩ v') lo X := by
  have hfr : FrM wr (w1.setCell ⟨X, 2, none⟩ v') lo X := grown_fr h.bO.outer hgrow h.loX
  have hXlt := (Array.getElem?_eq_some_iff.1 h.box).1
  have hb1 : w1.heap[X]? = some (.cells #[.int .i64 st, vN, vO] 24 (0, 0)) := by
    rw [hgrow.block X (by simp; omega) (fun hv => by
      obtain ⟨c2, k2⟩ := own_ty h.bO.outer hv.symm
      exact blk_ne h.box k2 (by decide) rfl), Below.heap_alloc wr o X hXlt]
    exact h.box
  have hN : ∀ k, vN.ownBlock = some k → w1.heap[k]? = wr.heap[k]? := fun k hk => by
    have hlt := (World.ownsRow.lt h.bN.outer k hk).2
    rw [hgrow.block k (by simp; omega) (fun hv => h.away k hk hv.symm), Below.heap_alloc wr o k hlt]
  have bN1 : Bag w1 lo vN pN := ⟨own_blk h.bN.outer hN, fun y hy => own_blk (h.bN.row y hy) (fun k hk => by
    have hlt := (World.ownsRow.lt (h.bN.row y hy) k hk).2
    rw [hgrow.block k (by simp; omega) (fun hv => by
      obtain ⟨c1, k1⟩ := own_ty (h.bN.row y hy) hk
      obtain ⟨c2, k2⟩ := own_ty h.bO.outer hv.symm
      exact blk_ne k1 k2 (by decide) rfl), Below.heap_alloc wr o k hlt]), h.bN.apart, h.bN.away⟩
  have bO1 := h.bO.snoc2 hx hxr hown' hgrow hat
  refine ⟨hb1, ⟨heap_setCell_same w1 X 2 _ _ v' hb1, bN1.only2 (Only.setCell w1 X 2 v') hb1, bO1.only2 (Only.setCell w1 X 2 v') hb1, fun g hg hO2 => ?_, h.loX⟩, hfr⟩
  rcases hat with hat | hat
  · rw [hat] at hO2
    exact h.away g hg hO2
  · rw [hat] at hO2
    have := (World.ownsRow.lt h.bN.outer g hg).2
    simp at hO2
    omega
theorem MkM.c {W : World} {lo X : Nat} {st : Int} {vN vO : Value} {pN pO : Lot} (h : MkM W lo X st vN vO pN pO) : W.cell? ⟨X, 0, none⟩ = some (.int .i64 st) ∧ W.cell? ⟨X, 1, none⟩ = some vN ∧ W.cell? ⟨X, 2, none⟩ = some vO ∧ ∀ k, W.frozen? ⟨X, k, none⟩ = false := by
  refine ⟨?_, ?_, ?_, fun k => by simp [World.frozen?, h.box]⟩ <;> (rw [cell_of_row _ _ _ _ _ _ h.box]; rfl)
theorem box_c {W : World} {X : Nat} {a b c : Value} (h : W.heap[X]? = some (.cells #[a, b, c] 24 (0, 0))) : W.cell? ⟨X, 0, none⟩ = some a ∧ W.cell? ⟨X, 1, none⟩ = some b ∧ W.cell? ⟨X, 2, none⟩ = some c ∧ ∀ k, W.frozen? ⟨X, k, none⟩ = false := by
  refine ⟨?_, ?_, ?_, fun k => by simp [World.frozen?, h]⟩ <;> (rw [cell_of_row _ _ _ _ _ _ h]; rfl)
/-- Two lists of lists of one's own. -/
def DbB (lo : Nat) (W : World) (vD vE : Value) (ND OD : List (List Int)) : Prop := ∃ pD pE : Lot, Bag W lo vD pD ∧ Bag W lo vE pE ∧ pD.map (·.2) = ND ∧ pE.map (·.2) = OD
theorem DbB.later {lo : Nat} {W W' : World} {vD vE : Value} {ND OD : List (List Int)} (h : DbB lo W vD vE ND OD) (hb : Below W.heap.size W W') : DbB lo W' vD vE ND OD := by
  obtain ⟨pD, pE, h1, h2, h3⟩ := h
  exact ⟨pD, pE, h1.later hb, h2.later hb, h3⟩
theorem DbB.only2 {lo R : Nat} {W U : World} {vD vE : Value} {ND OD : List (List Int)} {rc : Array Value} (h : DbB lo W vD vE ND OD) (ho : Only W U (fun b => b = R)) (hr : W.heap[R]? = some (.cells rc 24 (0, 0))) : DbB lo U vD vE ND OD := by
  obtain ⟨pD, pE, h1, h2, h3⟩ := h
  exact ⟨pD, pE, h1.only2 ho hr, h2.only2 ho hr, h3⟩
theorem DbB.rwa {lo : Nat} {W : World} {aD aE : Option Addr} {lD lE cD cE : Nat} {ND OD : List (List Int)} (h : DbB lo W (.slice aD lD cD) (.slice aE lE cE) ND OD) : RwA W aD ND ∧ RwA W aE OD ∧ lD = ND.length ∧ lE = OD.length := by
  obtain ⟨pD, pE, h1, h2, rfl, rfl⟩ := h
  obtain ⟨a, c, e1, q1⟩ := h1.rwq
  obtain ⟨b, d, e2, q2⟩ := h2.rwq
  injection e1 with e3 e4 _
  injection e2 with e5 e6 _
  subst e3
  subst e5
  exact ⟨q1.rwa, q2.rwa, e4, e6⟩
end Go.Proofs.YtjmmckkiicefhaaDoor
