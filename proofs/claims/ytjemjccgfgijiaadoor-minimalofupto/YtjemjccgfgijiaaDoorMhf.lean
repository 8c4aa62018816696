/-
  MjVW, MiIW, MkAW, MkBW, MkDM, MkEW, MiEW, MiHM, MiHW, MiPM, MiGW, MiPW.
-/
import Derived.Test.YtjemjccgfgijiaaDoorMhe
import Derived.Test.YtjemjccgfgijiaaDoorMhb
import Derived.BigRegion
import Derived.Test.YtjemjccgfgijiaaDoorMha
import Derived.Maps.AppendAt
import Derived.Lib.SmallJoins
import Derived.HandedShaped
import Derived.Test.YtjemjccgfgijiaaDoorMhc
namespace Go.Proofs.YtjemjccgfgijiaaDoor
open Go.RowKit Go.Shelf
theorem outF_mem {O : List (List Int)} {L : List Nat} {r : List Int} (h : r ∈ L.map (outF O)) : r = [] ∨ r ∈ O := by
  obtain ⟨s, _, rfl⟩ := List.mem_map.1 h
  unfold outF
  rw [List.getD_eq_getElem?_getD]
  by_cases hs : s < O.length
  · rw [List.getElem?_eq_getElem hs]
    exact .inr (List.getElem_mem hs)
  · rw [List.getElem?_eq_none (by omega)]
    exact .inl rfl
/-- What parted and joined ask of what wholeOf made. -/
theorem who_facts {m st : Nat} {N _O : List (List Int)} {L FN : List Nat} (hw : Whl m st N L.length (Lg1 L) (Fl FN)) (hl : FN.length = L.length * m) (hnb : N.length ≤ 2200000) (hNb : N.length * m ≤ 2200000) : L.length ≤ 2200000 ∧ L.length * m ≤ 2200000 ∧ (∀ c (h : c < (natI FN).length), (natI FN)[c] = ((Fl FN c : Nat) : Int) ∧ Fl FN c < L.length) ∧ (1 < L.length → 0 < m) := by
  have h1 := hw.le
  have h2 := Nat.mul_le_mul_right m h1
  refine ⟨by omega, by omega, fun c h => ?_, fun h => ?_⟩
  · rw [natI_len] at h
    have hm0 : 0 < m := by
      rcases Nat.eq_zero_or_pos m with e | e
      · rw [hl, e] at h; simp at h
      · exact e
    refine ⟨?_, ?_⟩
    · have e : Fl FN c = FN[c] := by
        unfold Fl
        rw [List.getD_eq_getElem?_getD, List.getElem?_eq_getElem h]
        rfl
      rw [e]
      unfold natI
      exact List.getElem_map _
    · have h3 := hw.fl (c / m) (c % m) ((Nat.div_lt_iff_lt_mul hm0).2 (by omega)) (Nat.mod_lt _ hm0)
      rw [Nat.mul_comm, Nat.div_add_mod] at h3
      exact h3
  · rcases Nat.eq_zero_or_pos m with e | e
    · have h4 := hw.bfs.row 1 h
      rw [e] at h4
      simp [top] at h4
    · exact e
theorem Bag.only2 {W U : World} {lo R : Nat} {v : Value} {ps : Lot} {rc : Array Value} (h : Bag W lo v ps) (ho : Only W U (fun b => b = R)) (hr : W.heap[R]? = some (.cells rc 24 (0, 0))) : Bag U lo v ps := by
  have key : ∀ {b : Nat} {cb : Array Value} {tb : TypeId}, W.heap[b]? = some (.cells cb tb (0, 0)) → tb ≠ 24 → U.heap[b]? = W.heap[b]? := fun {b cb tb} hb hn => ho.block b (Array.getElem?_eq_some_iff.1 hb).1 (blk_ne hb hr hn)
  refine ⟨own_blk h.outer (fun k hk => ?_), fun x hx => own_blk (h.row x hx) (fun k hk => ?_), h.apart, h.away⟩
  · obtain ⟨c2, hc⟩ := own_ty h.outer hk
    exact key hc (by decide)
  · obtain ⟨c2, hc⟩ := own_ty (h.row x hx) hk
    exact key hc (by decide)
/-- A machine is laid into the result's cells. -/
structure LaidM (W v1 v2 v3 : World) (R : Nat) (a b : Value) : Prop where
  g1 : W.setCell ⟨R, 0, none⟩ (.int .i64 0) = v1
  g2 : v1.setCell ⟨R, 1, none⟩ a = v2
  g3 : v2.setCell ⟨R, 2, none⟩ b = v3
  z : W.cell? ⟨R, 0, none⟩ = some (.int .i64 0) ∧ W.cell? ⟨R, 1, none⟩ = some (.slice none 0 0) ∧ W.cell? ⟨R, 2, none⟩ = some (.slice none 0 0)
  a1 : v1.cell? ⟨R, 1, none⟩ = some (.slice none 0 0)
  a2 : v2.cell? ⟨R, 2, none⟩ = some (.slice none 0 0)
  f0 : ∀ k, W.frozen? ⟨R, k, none⟩ = false
  f1 : ∀ k, v1.frozen? ⟨R, k, none⟩ = false
  f2 : ∀ k, v2.frozen? ⟨R, k, none⟩ = false
  b : v3.cell? ⟨R, 0, none⟩ = some (.int .i64 0) ∧ v3.cell? ⟨R, 1, none⟩ = some a ∧ v3.cell? ⟨R, 2, none⟩ = some b
  only : Only W v3 (fun k => k = R)
theorem laidM {W : World} {R : Nat} (a b : Value) (hrb : W.heap[R]? = some (.cells #[.int .i64 0, .slice none 0 0, .slice none 0 0] 24 (0, 0))) : ∃ v1 v2 v3, LaidM W v1 v2 v3 R a b := by
  have r1 := heap_setCell_same W R 0 _ _ (.int .i64 0) hrb
  have r2 := heap_setCell_same _ R 1 _ _ a r1
  have r3 := heap_setCell_same _ R 2 _ _ b r2
  refine ⟨_, _, _, rfl, rfl, rfl, ⟨?_, ?_, ?_⟩, ?_, ?_, fun k => by simp [World.frozen?, hrb], fun k => by simp [World.frozen?, r1], fun k => by simp [World.frozen?, r2], ⟨?_, ?_, ?_⟩, ((Only.setCell _ _ _ _).trans (Only.setCell _ _ _ _) (fun _ h => .inl h)).trans (Only.setCell _ _ _ _) (fun _ h => .inl h)⟩
  all_goals first
    | (rw [cell_of_row _ _ _ _ _ _ hrb]; rfl)
    | (rw [cell_of_row _ _ _ _ _ _ r1]; rfl)
    | (rw [cell_of_row _ _ _ _ _ _ r2]; rfl)
    | (rw [cell_of_row _ _ _ _ _ _ r3]; rfl)
theorem OfR.only {w W U : World} {m R : Nat} {st : Int} {N O : List (List Int)} {vN vO : Value} {rc : Array Value} (h : OfR w W m st N O vN vO) (ho : Only W U (fun b => b = R)) (hr : W.heap[R]? = some (.cells rc 24 (0, 0))) : OfR w U m st N O vN vO := by
  obtain ⟨pN, pO, h1, h2, h3⟩ := h
  exact ⟨pN, pO, h1.only2 ho hr, h2.only2 ho hr, h3⟩
set_option maxRecDepth 10000 in
set_option maxHeartbeats 1600000 in
theorem of_yes (s0 m : Nat) (N O : List (List Int)) (aN aO : Option Addr) (cN cO : Nat) (w : World) (hmay : mayF (s0 : Int) N O (m : Int) = true) (hnb : N.length ≤ 2200000) (hNb : N.length * m ≤ 2200000) (hmb : m ≤ 2200000) (hr : ∀ r ∈ O, r.length ≤ 2200000) (hz : ∀ r ∈ O, ∀ z ∈ r, 0 ≤ z ∧ z < 9223372036854775808) (ha : RwA w aN N) (hb : RwA w aO O) :
    Calls Tryd.prog 10 #[.agg #[.int .i64 (s0 : Int), .slice aN N.length cN, .slice aO O.length cO], .int .i64 (m : Int)] w fun e w' => ∃ vN vO, e = .returned (.tuple #[.agg #[.int .i64 0, vN, vO], .nilIface]) ∧ OfR w w' m (s0 : Int) N O vN vO ∧ Below w.heap.size w w' := by
  obtain ⟨n', hn', hm⟩ := mayF_may hmay
  obtain rfl : m = n' := by omega
  have hOl := hm.out
  have hst : s0 < N.length := by have := hm.start; omega
  have HMb : Hid (∀ V, Below w.heap.size w V → Calls Tryd.prog 29 #[.agg #[.int .i64 (s0 : Int), .slice aN N.length cN, .slice aO O.length cO], .int .i64 (m : Int)] V fun e w' => e = .returned (.bool true) ∧ Below V.heap.size V w') := hid0 (fun V hV => by
    have h := mayBe_any (s0 : Int) (m : Int) N O aN aO cN cO V (by omega) (fun r hr' => by rw [hm.row r hr']; omega) (fun r hr' => by have := hr r hr'; omega) (ha.past hV) (hb.past hV)
    rw [hmay] at h
    exact h)
  have HWo : Hid (∀ V, Below w.heap.size w V → Calls Tryd.prog 30 #[.agg #[.int .i64 (s0 : Int), .slice aN N.length cN, .slice aO O.length cO], .int .i64 (m : Int)] V fun e w' => ∃ X, e = .returned (.pointer (some ⟨X, 0, none⟩)) ∧ WhO w' X m s0 N O ∧ Below V.heap.size V w') := hid0 (fun V hV => by
    rw [hOl]
    exact wholeOf_any s0 m N.length N O aN aO cN cO V rfl hOl (ha.past hV) (hb.past hV) hst hm.row hm.num hnb hNb hmb)
  have HH := hid0 (And.intro hmay (And.intro hr hz))
  obtain ⟨w0, hw0⟩ : ∃ w0, w0 = w.alloc (.cells #[.int .i64 (s0 : Int), .slice aN N.length cN, .slice aO O.length cO] 24) := ⟨_, rfl⟩
  obtain ⟨w1, hw1⟩ : ∃ w1, w1 = w0.alloc (.cells #[.int .i64 0, .slice none 0 0, .slice none 0 0] 24) := ⟨_, rfl⟩
  have s0' : w0.heap.size = w.heap.size + 1 := by rw [hw0]; simp
  have m0 : w0.heap[w.heap.size]? = some (.cells #[.int .i64 (s0 : Int), .slice aN N.length cN, .slice aO O.length cO] 24 (0, 0)) := by rw [hw0]; exact heap_alloc_new _ _
  have m1 : w1.heap[w.heap.size]? = some (.cells #[.int .i64 (s0 : Int), .slice aN N.length cN, .slice aO O.length cO] 24 (0, 0)) := by rw [hw1, Below.heap_alloc _ _ _ (by omega)]; exact m0
  have r1 : w1.heap[w0.heap.size]? = some (.cells #[.int .i64 0, .slice none 0 0, .slice none 0 0] 24 (0, 0)) := by rw [hw1]; exact heap_alloc_new _ _
  have hB1 : Below w.heap.size w w1 := by
    rw [hw1, hw0] at *
    exact ((Below.refl _ _).alloc (Nat.le_refl _) _).alloc (by omega) _
  have HC : Hid (∀ V : World, V.heap[w.heap.size]? = some (.cells #[.int .i64 (s0 : Int), .slice aN N.length cN, .slice aO O.length cO] 24 (0, 0)) → V.cell? ⟨w.heap.size, 0, none⟩ = some (.int .i64 (s0 : Int)) ∧ V.cell? ⟨w.heap.size, 1, none⟩ = some (.slice aN N.length cN) ∧ V.cell? ⟨w.heap.size, 2, none⟩ = some (.slice aO O.length cO)) := hid0 (fun V hV => by
    refine ⟨?_, ?_, ?_⟩ <;> (rw [cell_of_row _ _ _ _ _ _ hV]; rfl))
  obtain ⟨x0, x1, x2⟩ := HC.out w1 m1
  have HB1 := hid0 hB1
  have q0s := hid0 s0'
  have HM1 := hid0 m1
  have HR1 := hid0 r1
  have q0 := hw0.symm
  have q1 := hw1.symm
  clear hw0 hw1 m0 m1 r1 hB1 ha hb hr hz hmay hm hOl hst hn' s0'
  go_enter Tryd.func10, Tryd.ntmps10
  go_upto_region 3 with (go_at_call 29; go_loud ((refine (HMb.out _ HB1.out).mono ?_; rintro e w2 ⟨rfl, hb2⟩)))
  obtain ⟨x0', x1', x2'⟩ := HC.out w2 ((hb2.block _ (Array.getElem?_eq_some_iff.1 HM1.out).1).trans HM1.out)
  have HB2 : Hid (Below w.heap.size w w2) := hid0 (HB1.out.trans ⟨hb2.os, hb2.tape, hb2.output, hb2.size, fun k hk => hb2.block k (by have := HB1.out.size; omega)⟩)
  have HR2 := hid0 ((hb2.block _ (Array.getElem?_eq_some_iff.1 HR1.out).1).trans HR1.out)
  clear hb2 q0 q1 x0 x1 x2
  go_upto_region 4 with (go_at_call 30; go_loud ((refine (HWo.out _ HB2.out).mono ?_; rintro e w3 ⟨X, rfl, hwo, hb3⟩; have HW3 := hid0 hwo; have HB3' := hid0 hb3; clear hwo hb3)))
  obtain ⟨L, FN, aN', cN', aO', cO', hwh, hwl, hfl, hcap⟩ := HW3.out
  have HB3 : Hid (Below w.heap.size w w3) := hid0 (HB2.out.trans ⟨HB3'.out.os, HB3'.out.tape, HB3'.out.output, HB3'.out.size, fun k hk => HB3'.out.block k (by have := HB2.out.size; omega)⟩)
  have HR3 := hid0 ((HB3'.out.block _ (Array.getElem?_eq_some_iff.1 HR2.out).1).trans HR2.out)
  obtain ⟨hmay, hr, hz⟩ := HH.out
  obtain ⟨k1, k2, k3, k4⟩ := who_facts (_O := O) hwl hfl hnb hNb
  have hr' : ∀ r ∈ L.map (outF O), r.length ≤ 2200000 := fun r hr' => by
    rcases outF_mem hr' with rfl | h
    · exact Nat.zero_le _
    · exact hr r h
  have hz' : ∀ r ∈ L.map (outF O), ∀ z ∈ r, 0 ≤ z ∧ z < 9223372036854775808 := fun r hr' => by
    rcases outF_mem hr' with rfl | h
    · exact fun z h => absurd h (by simp)
    · exact hz r h
  have HPa := hid0 (parted_any X m L.length aN' cN' (natI FN) aO' cO' (L.map (outF O)) (Fl FN) w3 hwh (by simp) hwl.pos k1 hmb (by rw [natI_len]; exact hfl) k2 k3 k4 hr' hz')
  have HJn : Hid (∀ (V : World) (C : Nat) (cl : Nat → Nat), Below w3.heap.size w3 V → Ov V C L.length cl → (∀ s, s < L.length → cl s < L.length) → Calls Tryd.prog 31 #[.pointer (some ⟨X, 0, none⟩), .slice (some ⟨C, 0, none⟩) L.length L.length] V fun e w' => ∃ vN vO, e = .returned (.agg #[.int .i64 0, vN, vO]) ∧ JnR V w' L.length m (Fl FN) cl (L.map (outF O)) vN vO ∧ Below V.heap.size V w') := hid0 (fun V C cl hV hC hcl => joined_any X m L.length aN' cN' (natI FN) aO' cO' (L.map (outF O)) (Fl FN) cl C V (hwh.past hV) hC hcl (by simp) k1 hmb (by rw [natI_len]; exact hfl) (by rw [← hfl]; exact hcap) k2 k3 hr')
  have HLs : Hid (∀ (V w' : World) (cl : Nat → Nat) (vN vO : Value), Cls m L.length (Fl FN) (fun s => (L.map (outF O)).getD s []) cl → w.heap.size ≤ V.heap.size → JnR V w' L.length m (Fl FN) cl (L.map (outF O)) vN vO → OfR w w' m (s0 : Int) N O vN vO) := hid0 (fun V w' cl vN vO h1 h2 h3 => jn_lst (_X := X) hmay hwl h1 h2 h3)
  clear hwh hwl hfl hcap hmay hr hz k1 k2 k3 k4 hr' hz' HW3 HH HWo HMb x0' x1' x2' HC HM1 HB1 HR1 HR2 HB3'
  have HLow : Hid (w.heap.size ≤ w0.heap.size) := hid0 (by have := q0s.out; omega)
  have HNx : Hid (∀ (w4 w5 : World) (cl : Nat → Nat) (vN vO : Value), Below w3.heap.size w3 w4 → Cls m L.length (Fl FN) (fun s => (L.map (outF O)).getD s []) cl → JnR w4 w5 L.length m (Fl FN) cl (L.map (outF O)) vN vO → Below w4.heap.size w4 w5 → (∃ a l c, vN = .slice a l c) ∧ (∃ a l c, vO = .slice a l c) ∧ ∃ v1 v2 v3, LaidM w5 v1 v2 v3 w0.heap.size vN vO ∧ OfR w v3 m (s0 : Int) N O vN vO ∧ Below w.heap.size w v3) := hid0 (fun w4 w5 cl vN vO hb4 hc hj hb5 => by
    have hs3 := HB3.out.size
    have hof := HLs.out w4 w5 cl vN vO hc (by have := hb4.size; omega) hj
    have hr4 := (hb4.block _ (Array.getElem?_eq_some_iff.1 HR3.out).1).trans HR3.out
    have hr5 := (hb5.block _ (Array.getElem?_eq_some_iff.1 hr4).1).trans hr4
    have hB5 : Below w.heap.size w w5 := (HB3.out.trans ⟨hb4.os, hb4.tape, hb4.output, hb4.size, fun k hk => hb4.block k (by omega)⟩).trans ⟨hb5.os, hb5.tape, hb5.output, hb5.size, fun k hk => hb5.block k (by have := hb4.size; omega)⟩
    obtain ⟨v1, v2, v3, hl⟩ := laidM vN vO hr5
    have hof2 := hof
    obtain ⟨pN, pO, h1, h2, _⟩ := hof2
    obtain ⟨aA, cA, eA, _⟩ := h1.rwq
    obtain ⟨aB, cB, eB, _⟩ := h2.rwq
    exact ⟨⟨_, _, _, eA⟩, ⟨_, _, _, eB⟩, v1, v2, v3, hl, hof.only hl.only hr5, hB5.trans (hl.only.below hB5.size (fun k hk => by rw [hk]; exact HLow.out))⟩)
  go_wp2_with (first
    | (go_at_call 32; go_loud ((refine HPa.out.mono ?_; rintro e w4 ⟨C, rfl, hcl, _, hb4⟩; have HCl := hid0 hcl; have HB4 := hid0 hb4; clear hcl hb4)))
    | (go_at_call 31; go_loud ((obtain ⟨cl, hov, hcls, hclt⟩ := HCl.out; refine (HJn.out w4 C cl HB4.out hov hclt).mono ?_; rintro e w5 ⟨vN, vO, rfl, hj, hb5⟩; obtain ⟨⟨aA, lA, cA, rfl⟩, ⟨aB, lB, cB, rfl⟩, v1, v2, v3, hl, hof, hbl⟩ := HNx.out w4 w5 cl vN vO HB4.out hcls hj hb5; have HFin := hid0 (And.intro hof hbl); have g1 := hl.g1; have g2 := hl.g2; have g3 := hl.g3; obtain ⟨z0, z1, z2⟩ := hl.z; have a1 := hl.a1; have a2 := hl.a2; have f0 := hl.f0; have f1 := hl.f1; have f2 := hl.f2; obtain ⟨b0, b1, b2⟩ := hl.b; clear hl hof hbl hj hb5 hov hcls hclt))))
  (try simp only [Exit.inBlock, Exit.then])
  refine bodyPost_ret (by simp [results, Tryd.results10, go_sem, b0, b1, b2]; try rfl) rfl ?_
  exact ⟨_, _, rfl, HFin.out⟩
end Go.Proofs.YtjemjccgfgijiaaDoor
namespace Go.Proofs.YtjemjccgfgijiaaDoor
open Go.RowKit Go.Shelf
theorem eq_upto {L M : List Int} (hl : L.length = M.length) (h : ∀ k, k < L.length → L[k]? = M[k]?) : L = M := by
  apply List.ext_getElem?
  intro k
  rcases Nat.lt_or_ge k L.length with hk | hk
  · exact h k hk
  · rw [List.getElem?_eq_none hk, List.getElem?_eq_none (by omega)]
set_option maxRecDepth 10000 in
set_option maxHeartbeats 800000 in
theorem equal_any (L M : List Int) (a b : Option Addr) (ca cb : Nat) (w : World) (hl : L.length ≤ 17592186044000) (ha : IA w a L) (hb : IA w b M) :
    Calls Tryd.prog 59 #[.slice a L.length ca, .slice b M.length cb] w fun e w' => e = .returned (.bool (decide (L = M))) ∧ ∃ n, w' = w.drewN n := by
  have HA := hid0 ha
  have HB := hid0 hb
  clear ha hb
  by_cases hlen : L.length = M.length
  · have hlI : (L.length : Int) = (M.length : Int) := by omega
    have HL := hid0 hlen
    clear hlen
    go_enter Tryd.func59, Tryd.ntmps59
    go_wp2
    go_loopw [13] (fun i wr => ∃ k : Nat, k ≤ L.length ∧ i = .int .i64 (k : Int) ∧ (∃ n, wr = w.drewN n) ∧ Hid (∀ j, j < k → L[j]? = M[j]?)) (fun i _ => L.length - (intOf i).toNat)
    case atStart => exact ⟨0, Nat.zero_le _, rfl, ⟨0, rfl⟩, hid0 (fun j h => absurd h (Nat.not_lt_zero _))⟩
    case round =>
      obtain ⟨k, hk, rfl, ⟨nd, rfl⟩, HE⟩ := hrel
      by_cases hlt : k < L.length
      · have hltM : k < M.length := by have := HL.out; omega
        obtain ⟨b1, o1, rfl, _, d1⟩ := HA.out.at' k hlt
        obtain ⟨b2, o2, rfl, _, d2⟩ := HB.out.at' k hltM
        have hkI : (k : Int) < (L.length : Int) := by omega
        have hkM : (k : Int) < (M.length : Int) := by omega
        have hkI0 : (0 : Int) ≤ (k : Int) := by omega
        have HG1 : Hid (L[k]? = some L[k]) := hid0 (List.getElem?_eq_getElem hlt)
        have HG2 : Hid (M[k]? = some M[k]) := hid0 (List.getElem?_eq_getElem hltM)
        generalize L[k] = s at *
        generalize M[k] = u at *
        by_cases hsu : s = u
        · subst hsu
          have hself : (s == s) = true := by simp
          have hself2 : (s != s) = false := by simp
          have HE2 : Hid (∀ j, j < k + 1 → L[j]? = M[j]?) := hid0 (fun j hj => by
            by_cases e : j = k
            · subst e; rw [HG1.out, HG2.out]
            · exact HE.out j (by omega))
          clear HE HG1 HG2
          go_wp2
          go_quiet ((fail))
          go_wp2
          go_roundw
          case rel => exact ⟨k + 1, by omega, by go_num, ⟨_, rfl⟩, HE2⟩
          case measure => simp [intOf]; omega
        · have hne : (s == u) = false := by simpa using hsu
          have hne2 : (s != u) = true := by simpa using hsu
          have HV : Hid (decide (L = M) = false) := hid0 (decide_eq_false (fun e => by
            subst e
            rw [HG1.out] at HG2
            exact hsu (by have := HG2.out; cases this; rfl)))
          clear HE HG1 HG2
          go_wp2
          go_quiet ((fail))
          go_wp2
          go_ret
          exact ⟨by rw [HV.out]; rfl, _, World.drewN_drewN _ _ _⟩
      · have hkI : ¬ (k : Int) < (L.length : Int) := by omega
        have HV : Hid (decide (L = M) = true) := hid0 (decide_eq_true (eq_upto HL.out (fun j hj => HE.out j (by omega))))
        clear HE
        go_wp2
        go_ret
        exact ⟨by rw [HV.out]; rfl, nd, rfl⟩
  · have hlI : ¬ (L.length : Int) = (M.length : Int) := by omega
    have HV : Hid (decide (L = M) = false) := hid0 (decide_eq_false (fun e => hlen (by rw [e])))
    clear hlen
    go_enter Tryd.func59, Tryd.ntmps59
    go_wp2
    go_ret
    exact ⟨by rw [HV.out]; rfl, 0, rfl⟩
set_option maxRecDepth 10000 in
set_option maxHeartbeats 800000 in
theorem sameInts_any (L M : List Int) (a b : Option Addr) (ca cb : Nat) (w : World) (hl : L.length ≤ 17592186044000) (ha : IA w a L) (hb : IA w b M) :
    Calls Tryd.prog 12 #[.slice a L.length ca, .slice b M.length cb] w fun e w' => e = .returned (.bool (decide (L = M))) ∧ ∃ n, w' = w.drewN n := by
  have HA := hid0 ha
  have HB := hid0 hb
  clear ha hb
  by_cases hlen : L.length = M.length
  · have hlI : (L.length : Int) = (M.length : Int) := by omega
    have HL := hid0 hlen
    clear hlen
    go_enter Tryd.func12, Tryd.ntmps12
    go_wp2
    go_loopw [5] (fun i wr => ∃ k : Nat, k ≤ L.length ∧ i = .int .i64 (k : Int) ∧ (∃ n, wr = w.drewN n) ∧ Hid (∀ j, j < k → L[j]? = M[j]?)) (fun i _ => L.length - (intOf i).toNat)
    case atStart => exact ⟨0, Nat.zero_le _, rfl, ⟨0, rfl⟩, hid0 (fun j h => absurd h (Nat.not_lt_zero _))⟩
    case round =>
      obtain ⟨k, hk, rfl, ⟨nd, rfl⟩, HE⟩ := hrel
      by_cases hlt : k < L.length
      · have hltM : k < M.length := by have := HL.out; omega
        obtain ⟨b1, o1, rfl, _, d1⟩ := HA.out.at' k hlt
        obtain ⟨b2, o2, rfl, _, d2⟩ := HB.out.at' k hltM
        have hkI : (k : Int) < (L.length : Int) := by omega
        have hkM : (k : Int) < (M.length : Int) := by omega
        have hkI0 : (0 : Int) ≤ (k : Int) := by omega
        have HG1 : Hid (L[k]? = some L[k]) := hid0 (List.getElem?_eq_getElem hlt)
        have HG2 : Hid (M[k]? = some M[k]) := hid0 (List.getElem?_eq_getElem hltM)
        generalize L[k] = s at *
        generalize M[k] = u at *
        by_cases hsu : s = u
        · subst hsu
          have hself : (s == s) = true := by simp
          have hself2 : (s != s) = false := by simp
          have HE2 : Hid (∀ j, j < k + 1 → L[j]? = M[j]?) := hid0 (fun j hj => by
            by_cases e : j = k
            · subst e; rw [HG1.out, HG2.out]
            · exact HE.out j (by omega))
          clear HE HG1 HG2
          go_wp2
          go_quiet ((fail))
          go_wp2
          go_roundw
          case rel => exact ⟨k + 1, by omega, by go_num, ⟨_, rfl⟩, HE2⟩
          case measure => simp [intOf]; omega
        · have hne : (s == u) = false := by simpa using hsu
          have hne2 : (s != u) = true := by simpa using hsu
          have HV : Hid (decide (L = M) = false) := hid0 (decide_eq_false (fun e => by
            subst e
            rw [HG1.out] at HG2
            exact hsu (by have := HG2.out; cases this; rfl)))
          clear HE HG1 HG2
          go_wp2
          go_quiet ((fail))
          go_wp2
          go_ret
          exact ⟨by rw [HV.out]; rfl, _, World.drewN_drewN _ _ _⟩
      · have hkI : ¬ (k : Int) < (L.length : Int) := by omega
        have HV : Hid (decide (L = M) = true) := hid0 (decide_eq_true (eq_upto HL.out (fun j hj => HE.out j (by omega))))
        clear HE
        go_wp2
        go_ret
        exact ⟨by rw [HV.out]; rfl, nd, rfl⟩
  · have hlI : ¬ (L.length : Int) = (M.length : Int) := by omega
    have HV : Hid (decide (L = M) = false) := hid0 (decide_eq_false (fun e => hlen (by rw [e])))
    clear hlen
    go_enter Tryd.func12, Tryd.ntmps12
    go_wp2
    go_ret
    exact ⟨by rw [HV.out]; rfl, 0, rfl⟩
/-- A list whose first so many places, and last so many, are turned. -/
structure RevI (xs ys : List Int) (i : Nat) : Prop where
  len : ys.length = xs.length
  at' : ∀ k, k < xs.length → ys[k]? = if k < i ∨ xs.length - i ≤ k then xs[xs.length - 1 - k]? else xs[k]?
theorem RevI.first (xs : List Int) : RevI xs xs 0 := ⟨rfl, fun k hk => by rw [if_neg (by omega)]⟩
theorem RevI.step {xs ys : List Int} {i j : Nat} (h : RevI xs ys i) (hj : j = xs.length - 1 - i) (hij : i < j) (hi' : i < ys.length) (hj' : j < ys.length) : RevI xs ((ys.set i ys[j]).set j ys[i]) (i + 1) := by
  have hl := h.len
  have ai := h.at' i (by omega)
  have aj := h.at' j (by omega)
  rw [if_neg (by omega)] at ai aj
  refine ⟨by simp [hl], fun k hk => ?_⟩
  rw [List.getElem?_set]
  by_cases hkj : j = k
  · subst hkj
    rw [if_pos rfl, if_pos (by simp; omega), if_pos (by omega), ← List.getElem?_eq_getElem hi', ai]
    congr 1
    omega
  · rw [if_neg hkj, List.getElem?_set]
    by_cases hki : i = k
    · subst hki
      rw [if_pos rfl, if_pos (by omega), if_pos (by omega), ← List.getElem?_eq_getElem hj', aj]
      congr 1
    · rw [if_neg hki, h.at' k hk]
      by_cases hc : k < i ∨ xs.length - i ≤ k
      · rw [if_pos hc, if_pos (by omega)]
      · rw [if_neg hc, if_neg (by omega)]
theorem RevI.last {xs ys : List Int} {i : Nat} (h : RevI xs ys i) (hi : xs.length ≤ 2 * i + 1) : ys = xs.reverse := by
  apply List.ext_getElem?
  intro k
  rcases Nat.lt_or_ge k xs.length with hk | hk
  · rw [h.at' k hk, List.getElem?_reverse hk]
    by_cases hc : k < i ∨ xs.length - i ≤ k
    · rw [if_pos hc]
    · rw [if_neg hc]
      congr 1
      omega
  · rw [List.getElem?_eq_none (by rw [h.len]; exact hk), List.getElem?_eq_none (by simpa using hk)]
theorem own_two {w : World} {m g n c : Nat} {ys : List Int} (h : w.ownsRow m 3 1 (.slice (some ⟨g, 0, none⟩) n c) n (ys.map (Value.int .i64))) (i j : Nat) (x y : Int) : ((w.setCell ⟨g, i, none⟩ (.int .i64 x)).setCell ⟨g, j, none⟩ (.int .i64 y)).ownsRow m 3 1 (.slice (some ⟨g, 0, none⟩) n c) n (((ys.set i x).set j y).map (Value.int .i64)) := by
  have h1 := World.ownsRow.stored h i (.int .i64 x)
  have h2 := World.ownsRow.stored h1.1 j (.int .i64 y)
  have e : ((ys.map (Value.int .i64)).set i (.int .i64 x)).set j (.int .i64 y) = ((ys.set i x).set j y).map (Value.int .i64) := by rw [List.map_set, List.map_set]
  rw [← e]
  exact h2.1
set_option maxRecDepth 10000 in
set_option maxHeartbeats 1600000 in
theorem reverseI_some (xs : List Int) (g c m : Nat) (w : World) (hl : xs.length ≤ 100000000000) (ho : OwnI w m (.slice (some ⟨g, 0, none⟩) xs.length c) xs) :
    Calls Tryd.prog 61 #[.slice (some ⟨g, 0, none⟩) xs.length c] w fun r w' => r = .returned (.tuple #[]) ∧ OwnI w' m (.slice (some ⟨g, 0, none⟩) xs.length c) xs.reverse ∧ Below m w w' := by
  obtain ⟨n, hn⟩ : ∃ n, xs.length = n := ⟨_, rfl⟩
  have HO : Hid (w.ownsRow m 3 1 (.slice (some ⟨g, 0, none⟩) n c) n (xs.map (Value.int .i64))) := hid0 (by rw [← hn]; exact ho)
  have hmg : m ≤ g := (World.ownsRow.lt ho g rfl).1
  have HN := hid0 hn
  rw [hn] at hl ⊢
  clear ho hn
  have hsub : IntKind.i64.wrap ((n : Int) - 1) = (n : Int) - 1 := by simp [IntKind.wrap, IntKind.bits, IntKind.signed]; omega
  go_enter Tryd.func61, Tryd.ntmps61
  go_wp2
  go_loopw [2, 3] (fun a b wr => ∃ (i : Nat) (ys : List Int), 2 * i ≤ n ∧ a = .int .i64 (i : Int) ∧ b = .int .i64 ((n : Int) - 1 - (i : Int)) ∧ Hid (RevI xs ys i) ∧ Hid (wr.ownsRow m 3 1 (.slice (some ⟨g, 0, none⟩) n c) n (ys.map (Value.int .i64))) ∧ Hid (Below m w wr)) (fun a _ _ => n - (intOf a).toNat)
  case atStart => exact ⟨0, xs, by omega, rfl, by simp, hid0 (RevI.first xs), HO, hid0 (Below.refl _ _)⟩
  case round =>
    obtain ⟨i, ys, hi, rfl, rfl, HR, HOy, HG⟩ := hrel
    by_cases hlt : 2 * i + 1 < n
    · obtain ⟨j, hj⟩ : ∃ j, j = n - 1 - i := ⟨_, rfl⟩
      have hji : ((n : Int) - 1 - (i : Int)) = (j : Int) := by omega
      rw [hji]
      have hij : i < j := by omega
      have hjn : j < n := by omega
      have hyl : ys.length = n := by rw [HR.out.len, HN.out]
      have hI : (i : Int) < (j : Int) := by omega
      have hI0 : (0 : Int) ≤ (i : Int) := by omega
      have hJ0 : (0 : Int) ≤ (j : Int) := by omega
      have hIn : (i : Int) < (n : Int) := by omega
      have hJn : (j : Int) < (n : Int) := by omega
      have p0 : wr.cell? ⟨g, i, none⟩ = some (.int .i64 (ys[i]'(by omega))) := by
        have h1 := World.ownsRow.cellAt HOy.out i (by omega)
        rw [h1]; simp
      have q0 : wr.cell? ⟨g, j, none⟩ = some (.int .i64 (ys[j]'(by omega))) := by
        have h1 := World.ownsRow.cellAt HOy.out j (by omega)
        rw [h1]; simp
      have F0 := World.ownsRow.frozenAt HOy.out i
      have G0 := World.ownsRow.frozenAt HOy.out j
      have HSt := hid0 (HR.out.step (j := j) (by rw [HN.out]; exact hj) hij (by omega) (by omega))
      generalize (ys[i]'(by omega)) = x at *
      generalize (ys[j]'(by omega)) = y at *
      have hsub2 : IntKind.i64.wrap ((j : Int) - 1) = (j : Int) - 1 := by simp [IntKind.wrap, IntKind.bits, IntKind.signed]; omega
      have HOn := hid0 (own_two HOy.out i j y x)
      have HGn : Hid (Below m w ((wr.setCell ⟨g, i, none⟩ (.int .i64 y)).setCell ⟨g, j, none⟩ (.int .i64 x))) := hid0 ((HG.out.setCell (p := ⟨g, i, none⟩) hmg _).setCell (p := ⟨g, j, none⟩) hmg _)
      have HJ := hid0 hj
      clear hj hyl HR HG
      go_wp2
      go_region
      go_wp2
      go_roundw
      case rel => exact ⟨i + 1, _, by omega, by go_num, by have := HJ.out; go_num, HSt, hid0 (own_blk HOn.out (fun _ _ => rfl)), hid0 (HGn.out.trans ⟨rfl, rfl, rfl, Nat.le_refl _, fun _ _ => rfl⟩)⟩
      case measure => simp [intOf]; omega
    · have hI : ¬ (i : Int) < ((n : Int) - 1 - (i : Int)) := by omega
      have HV := hid0 (HR.out.last (by rw [HN.out]; omega))
      go_wp2
      refine bodyPost_end (results_none rfl _ _ _) rfl ?_
      refine ⟨rfl, ?_, HG.out⟩
      have h := HOy.out
      rw [HV.out] at h
      have hq : xs.reverse.length = n := by rw [List.length_reverse, HN.out]
      unfold OwnI
      rw [hq]
      exact h
set_option maxRecDepth 10000 in
set_option maxHeartbeats 800000 in
theorem reverseI_nil (w : World) : Calls Tryd.prog 61 #[.slice none 0 0] w fun r w' => r = .returned (.tuple #[]) ∧ w' = w := by
  go_enter Tryd.func61, Tryd.ntmps61
  go_wp2
  go_loopw [2, 3] (fun a b wr => a = .int .i64 0 ∧ b = .int .i64 (-1) ∧ wr = w) (fun _ _ _ => 0)
  case atStart => exact ⟨rfl, rfl, rfl⟩
  case round =>
    obtain ⟨rfl, rfl, rfl⟩ := hrel
    go_wp2
    refine bodyPost_end (results_none rfl _ _ _) rfl ?_
    exact ⟨rfl, rfl⟩
/-- A list of one's own turned round. -/
theorem reverseI_any (xs : List Int) (v : Value) (m : Nat) (w : World) (hl : xs.length ≤ 100000000000) (ho : OwnI w m v xs) :
    Calls Tryd.prog 61 #[v] w fun r w' => r = .returned (.tuple #[]) ∧ OwnI w' m v xs.reverse ∧ Below m w w' := by
  rcases ho.2 with ⟨e, hn⟩ | ⟨g, cap, cur, e, _⟩
  · have hx : xs = [] := List.eq_nil_of_length_eq_zero hn
    subst hx e
    refine (reverseI_nil w).mono ?_
    rintro r w' ⟨rfl, rfl⟩
    exact ⟨rfl, ho, Below.refl _ _⟩
  · subst e
    exact reverseI_some xs g cap m w hl ho
end Go.Proofs.YtjemjccgfgijiaaDoor
namespace Go.Proofs.YtjemjccgfgijiaaDoor
open Go.RowKit Go.Shelf
theorem Sents.e1 {w : World} {A : Nat → Addr} (h : Sents w A) : E1 w (A 0) := ⟨h.c0⟩
set_option maxRecDepth 10000 in
set_option maxHeartbeats 1600000 in
theorem of_no (x : Addr) (st sy : Int) (N O : List (List Int)) (aN aO : Option Addr) (cN cO : Nat) (w : World) (hmay : mayF st N O sy = false) (hN : N.length ≤ 17592186043904) (hNr : ∀ r ∈ N, r.length ≤ 17592186043904) (hOr : ∀ r ∈ O, r.length ≤ 17592186043904) (ha : RwA w aN N) (hb : RwA w aO O) (he : E1 w x) :
    Calls Tryd.prog 10 #[.agg #[.int .i64 st, .slice aN N.length cN, .slice aO O.length cO], .int .i64 sy] w fun e w' => e = .returned (.tuple #[.agg #[.int .i64 0, .slice none 0 0, .slice none 0 0], .iface 135 (.pointer (some x))]) ∧ Below w.heap.size w w' := by
  have HMb : Hid (∀ V, Below w.heap.size w V → Calls Tryd.prog 29 #[.agg #[.int .i64 st, .slice aN N.length cN, .slice aO O.length cO], .int .i64 sy] V fun e w' => e = .returned (.bool false) ∧ Below V.heap.size V w') := hid0 (fun V hV => by
    have h := mayBe_any st sy N O aN aO cN cO V hN hNr hOr (ha.past hV) (hb.past hV)
    rw [hmay] at h
    exact h)
  obtain ⟨w0, hw0⟩ : ∃ w0, w0 = w.alloc (.cells #[.int .i64 st, .slice aN N.length cN, .slice aO O.length cO] 24) := ⟨_, rfl⟩
  obtain ⟨w1, hw1⟩ : ∃ w1, w1 = w0.alloc (.cells #[.int .i64 0, .slice none 0 0, .slice none 0 0] 24) := ⟨_, rfl⟩
  have s0' : w0.heap.size = w.heap.size + 1 := by rw [hw0]; simp
  have m0 : w0.heap[w.heap.size]? = some (.cells #[.int .i64 st, .slice aN N.length cN, .slice aO O.length cO] 24 (0, 0)) := by rw [hw0]; exact heap_alloc_new _ _
  have m1 : w1.heap[w.heap.size]? = some (.cells #[.int .i64 st, .slice aN N.length cN, .slice aO O.length cO] 24 (0, 0)) := by rw [hw1, Below.heap_alloc _ _ _ (by omega)]; exact m0
  have r1 : w1.heap[w0.heap.size]? = some (.cells #[.int .i64 0, .slice none 0 0, .slice none 0 0] 24 (0, 0)) := by rw [hw1]; exact heap_alloc_new _ _
  have hB1 : Below w.heap.size w w1 := by
    rw [hw1, hw0] at *
    exact ((Below.refl _ _).alloc (Nat.le_refl _) _).alloc (by omega) _
  have x0 : w1.cell? ⟨w.heap.size, 0, none⟩ = some (.int .i64 st) := by rw [cell_of_row _ _ _ _ _ _ m1]; rfl
  have x1 : w1.cell? ⟨w.heap.size, 1, none⟩ = some (.slice aN N.length cN) := by rw [cell_of_row _ _ _ _ _ _ m1]; rfl
  have x2 : w1.cell? ⟨w.heap.size, 2, none⟩ = some (.slice aO O.length cO) := by rw [cell_of_row _ _ _ _ _ _ m1]; rfl
  have HB1 := hid0 hB1
  have q0s := hid0 s0'
  have HR1 := hid0 r1
  have HE := hid0 he
  have q0 := hw0.symm
  have q1 := hw1.symm
  clear hw0 hw1 m0 m1 r1 hB1 ha hb hmay s0' he hNr hOr
  go_enter Tryd.func10, Tryd.ntmps10
  go_upto_region 2 with (go_at_call 29; go_loud ((refine (HMb.out _ HB1.out).mono ?_; rintro e w2 ⟨rfl, hb2⟩; have HB2' := hid0 hb2; clear hb2)))
  have HB2 : Hid (Below w.heap.size w w2) := hid0 (HB1.out.trans ⟨HB2'.out.os, HB2'.out.tape, HB2'.out.output, HB2'.out.size, fun k hk => HB2'.out.block k (by have := HB1.out.size; omega)⟩)
  have HR2 := hid0 ((HB2'.out.block _ (Array.getElem?_eq_some_iff.1 HR1.out).1).trans HR1.out)
  have HFin : Hid (∀ U : World, Below w2.heap.size w2 U → ∃ v1 v2 v3, LaidM U v1 v2 v3 w0.heap.size (.slice none 0 0) (.slice none 0 0) ∧ U.cell? ⟨0, 0, none⟩ = some (.iface 135 (.pointer (some x))) ∧ v1.cell? ⟨0, 0, none⟩ = some (.iface 135 (.pointer (some x))) ∧ v2.cell? ⟨0, 0, none⟩ = some (.iface 135 (.pointer (some x))) ∧ v3.cell? ⟨0, 0, none⟩ = some (.iface 135 (.pointer (some x))) ∧ Below w.heap.size w v3) := hid0 (fun U hU => by
    have hr := (hU.block _ (Array.getElem?_eq_some_iff.1 HR2.out).1).trans HR2.out
    obtain ⟨v1, v2, v3, hl⟩ := laidM (.slice none 0 0) (.slice none 0 0) hr
    have hBU : Below w.heap.size w U := HB2.out.trans ⟨hU.os, hU.tape, hU.output, hU.size, fun k hk => hU.block k (by have := HB2.out.size; omega)⟩
    have hc := (HE.out.below hBU).c
    have hne : ∀ (V : World) (o : Nat) (u : Value), V.cell? ⟨0, 0, none⟩ = some (.iface 135 (.pointer (some x))) → (V.setCell ⟨w0.heap.size, o, none⟩ u).cell? ⟨0, 0, none⟩ = some (.iface 135 (.pointer (some x))) := fun V o u h => by
      refine ((Only.setCell V w0.heap.size o u).cell (World.block_lt_of_cell? V _ h) (fun e => ?_)).trans h
      have := World.block_lt_of_cell? w _ HE.out.c
      have := q0s.out
      simp only at e
      omega
    have c1 := hne U 0 (.int .i64 0) hc
    rw [hl.g1] at c1
    have c2 := hne v1 1 (.slice none 0 0) c1
    rw [hl.g2] at c2
    have c3 := hne v2 2 (.slice none 0 0) c2
    rw [hl.g3] at c3
    exact ⟨v1, v2, v3, hl, hc, c1, c2, c3, hBU.trans (hl.only.below hBU.size (fun k hk => by rw [hk]; have := q0s.out; omega))⟩)
  clear HB2' HR1 HB1 q0 q1 x0 x1 x2 HMb
  obtain ⟨v1, v2, v3, hl, e0, e1, e2, e3, hbl⟩ := HFin.out w2.drew (below_drew' (Below.refl _ _) 1)
  have g1 := hl.g1
  have g2 := hl.g2
  have g3 := hl.g3
  obtain ⟨z0, z1, z2⟩ := hl.z
  have a1 := hl.a1
  have a2 := hl.a2
  have f0 := hl.f0
  have f1 := hl.f1
  have f2 := hl.f2
  obtain ⟨b0, b1, b2⟩ := hl.b
  have HBL := hid0 hbl
  clear hl hbl
  go_region
  all_goals go_wp2
  all_goals (try simp only [Exit.inBlock, Exit.then])
  all_goals refine bodyPost_ret (by simp [results, Tryd.results10, go_sem, b0, b1, b2]; try rfl) rfl ?_
  all_goals exact ⟨rfl, HBL.out⟩
end Go.Proofs.YtjemjccgfgijiaaDoor
namespace Go.Proofs.YtjemjccgfgijiaaDoor
open Go.RowKit Go.Shelf
theorem eq_uptoL {L M : List (List Int)} (hl : L.length = M.length) (h : ∀ k, k < L.length → L[k]? = M[k]?) : L = M := by
  apply List.ext_getElem?
  intro k
  rcases Nat.lt_or_ge k L.length with hk | hk
  · exact h k hk
  · rw [List.getElem?_eq_none hk, List.getElem?_eq_none (by omega)]
theorem IA.drewN {w : World} {a : Option Addr} {L : List Int} (h : IA w a L) (n : Nat) : IA (w.drewN n) a L := ⟨h.at'⟩
set_option maxRecDepth 10000 in
set_option maxHeartbeats 800000 in
theorem equalFunc_any (L M : List (List Int)) (a b : Option Addr) (ca cb : Nat) (w : World) (hl : L.length ≤ 1000000000) (hr : ∀ r ∈ L, r.length ≤ 1000000000) (ha : RwA w a L) (hb : RwA w b M) :
    Calls Tryd.prog 58 #[.slice a L.length ca, .slice b M.length cb, .func (.func 59) #[] #[]] w fun e w' => e = .returned (.bool (decide (L = M))) ∧ ∃ n, w' = w.drewN n := by
  have HA := hid0 ha
  have HB := hid0 hb
  have HR := hid0 hr
  clear ha hb hr
  by_cases hlen : L.length = M.length
  · have hlI : (L.length : Int) = (M.length : Int) := by omega
    have HL := hid0 hlen
    clear hlen
    go_enter Tryd.func58, Tryd.ntmps58
    go_wp2
    go_loopw [17] (fun i wr => ∃ k : Nat, k ≤ L.length ∧ i = .int .i64 (k : Int) ∧ (∃ n, wr = w.drewN n) ∧ Hid (∀ j, j < k → L[j]? = M[j]?)) (fun i _ => L.length - (intOf i).toNat)
    case atStart => exact ⟨0, Nat.zero_le _, rfl, ⟨0, rfl⟩, hid0 (fun j h => absurd h (Nat.not_lt_zero _))⟩
    case round =>
      obtain ⟨k, hk, rfl, ⟨nd, rfl⟩, HE⟩ := hrel
      by_cases hlt : k < L.length
      · have hltM : k < M.length := by have := HL.out; omega
        obtain ⟨b1, o1, rfl, _, a1, c1, d1, i1⟩ := HA.out.at' k hlt
        obtain ⟨b2, o2, rfl, _, a2, c2, d2, i2⟩ := HB.out.at' k hltM
        have hkI : (k : Int) < (L.length : Int) := by omega
        have hkM : (k : Int) < (M.length : Int) := by omega
        have hkI0 : (0 : Int) ≤ (k : Int) := by omega
        have HG1 : Hid (L[k]? = some L[k]) := hid0 (List.getElem?_eq_getElem hlt)
        have HG2 : Hid (M[k]? = some M[k]) := hid0 (List.getElem?_eq_getElem hltM)
        have HS := hid0 (equal_any L[k] M[k] a1 a2 c1 c2 (w.drewN nd) (by have := HR.out _ (List.getElem_mem hlt); omega) (i1.drewN nd) (i2.drewN nd))
        clear i1 i2
        generalize L[k] = s at *
        generalize M[k] = u at *
        by_cases hsu : s = u
        · have HE2 : Hid (∀ j, j < k + 1 → L[j]? = M[j]?) := hid0 (fun j hj => by
            by_cases e : j = k
            · subst e; rw [HG1.out, HG2.out, hsu]
            · exact HE.out j (by omega))
          rw [decide_eq_true hsu] at HS
          have HSU := hid0 hsu
          clear HE HG1 HG2 hsu
          go_wp2_with (go_at_call 59; refine HS.out.mono ?_; rintro e w1 ⟨rfl, nq, hw⟩; rw [World.drewN_drewN] at hw; subst hw)
          go_roundw
          case rel => exact ⟨k + 1, by omega, by go_num, ⟨_, rfl⟩, HE2⟩
          case measure => simp [intOf]; omega
        · have HV : Hid (decide (L = M) = false) := hid0 (decide_eq_false (fun e => by
            subst e
            rw [HG1.out] at HG2
            exact hsu (by have := HG2.out; cases this; rfl)))
          rw [decide_eq_false hsu] at HS
          clear HE HG1 HG2 hsu
          go_wp2_with (go_at_call 59; refine HS.out.mono ?_; rintro e w1 ⟨rfl, nq, hw⟩; rw [World.drewN_drewN] at hw; subst hw)
          go_ret
          exact ⟨by rw [HV.out]; rfl, _, rfl⟩
      · have hkI : ¬ (k : Int) < (L.length : Int) := by omega
        have HV : Hid (decide (L = M) = true) := hid0 (decide_eq_true (eq_uptoL HL.out (fun j hj => HE.out j (by omega))))
        clear HE
        go_wp2
        go_ret
        exact ⟨by rw [HV.out]; rfl, nd, rfl⟩
  · have hlI : ¬ (L.length : Int) = (M.length : Int) := by omega
    have HV : Hid (decide (L = M) = false) := hid0 (decide_eq_false (fun e => hlen (by rw [e])))
    clear hlen
    go_enter Tryd.func58, Tryd.ntmps58
    go_wp2
    go_ret
    exact ⟨by rw [HV.out]; rfl, 0, rfl⟩
set_option maxRecDepth 10000 in
set_option maxHeartbeats 800000 in
theorem sameRowsM_any (L M : List (List Int)) (a b : Option Addr) (ca cb : Nat) (w : World) (hl : L.length ≤ 1000000000) (hr : ∀ r ∈ L, r.length ≤ 1000000000) (ha : RwA w a L) (hb : RwA w b M) :
    Calls Tryd.prog 36 #[.slice a L.length ca, .slice b M.length cb] w fun e w' => e = .returned (.bool (decide (L = M))) ∧ ∃ n, w' = w.drewN n := by
  have HS := hid0 (equalFunc_any L M a b ca cb w hl hr ha hb)
  clear ha hb hr hl
  generalize decide (L = M) = t at *
  go_enter Tryd.func36, Tryd.ntmps36
  go_wp2_with (go_at_call 58; refine HS.out.mono ?_; rintro e w1 ⟨rfl, nq, hw⟩; subst hw)
  go_ret
  exact ⟨rfl, _, rfl⟩
end Go.Proofs.YtjemjccgfgijiaaDoor
namespace Go.Proofs.YtjemjccgfgijiaaDoor
theorem Lst.self {m : Nat} {N O : List (List Int)} (h : Red m N O) : Lst m 0 N O N O := ⟨h, fun _ _ => rfl, Nat.le_refl _⟩
/-- What Is says. -/
noncomputable def isB (st : Int) (N O : List (List Int)) (sy : Int) : Bool := @decide (st = 0 ∧ ∃ m : Nat, sy = (m : Int) ∧ Red m N O) (Classical.propDecidable _)
theorem isB_no {st sy : Int} {N O : List (List Int)} (h : mayF st N O sy = false) : isB st N O sy = false := by
  unfold isB
  refine @decide_eq_false _ (Classical.propDecidable _) ?_
  rintro ⟨rfl, m, rfl, hr⟩
  rw [hr.may] at h
  exact Bool.noConfusion h
theorem isB_yes {m : Nat} {N O : List (List Int)} (h : Red m N O) : isB 0 N O (m : Int) = true := by
  unfold isB
  exact @decide_eq_true _ (Classical.propDecidable _) ⟨rfl, m, rfl, h⟩
theorem isB_lst {m : Nat} {st : Int} {N O N' O' : List (List Int)} (h : Lst m st N O N' O') : isB st N O (m : Int) = (decide (st = 0) && decide (N = N') && decide (O = O')) := by
  by_cases h1 : st = 0
  · subst h1
    by_cases h2 : N = N' ∧ O = O'
    · obtain ⟨rfl, rfl⟩ := h2
      rw [isB_yes h.red]
      simp
    · have h3 : isB 0 N O (m : Int) = false := by
        unfold isB
        refine @decide_eq_false _ (Classical.propDecidable _) ?_
        rintro ⟨_, m', hm', hr⟩
        obtain rfl : m = m' := by omega
        exact h2 ((Lst.self hr).uniq h)
      rw [h3]
      by_cases h4 : N = N'
      · have h5 : ¬ O = O' := fun e => h2 ⟨h4, e⟩
        simp [h5]
      · simp [h4]
  · have h3 : isB st N O (m : Int) = false := by
      unfold isB
      refine @decide_eq_false _ (Classical.propDecidable _) ?_
      rintro ⟨e, _⟩
      exact h1 e
    rw [h3]
    simp [h1]
/-- Each state of a least machine is met by some word. -/
theorem Red.word {m : Nat} {N O : List (List Int)} (h : Red m N O) : ∀ (s : Nat), s < N.length → ∃ u, okW m u ∧ runW (nxF N) 0 u = s := by
  intro s
  induction s using Nat.strongRecOn with
  | _ s ih =>
    intro hs
    rcases Nat.eq_zero_or_pos s with rfl | hp
    · exact ⟨[], okW.nil m, rfl⟩
    · have h1 := h.bfs.row s hs
      obtain ⟨j, hj, e⟩ := h.bfs.hit (s * m) (Nat.mul_le_mul_right m (by omega)) s hp h1
      have hm0 : 0 < m := by
        rcases Nat.eq_zero_or_pos m with e0 | e0
        · rw [e0, Nat.mul_zero] at hj; omega
        · exact e0
      have hq : j / m < s := (Nat.div_lt_iff_lt_mul hm0).2 hj
      obtain ⟨u, hu, hr⟩ := ih (j / m) hq (by omega)
      refine ⟨u ++ [j % m], fun c hc => ?_, ?_⟩
      · rcases List.mem_append.1 hc with h2 | h2
        · exact hu c h2
        · rw [List.mem_singleton] at h2
          rw [h2]
          exact Nat.mod_lt _ hm0
      · rw [runW_append, hr]
        exact e
/-- What it tells is told by the machine. -/
theorem Lst.out {m : Nat} {st : Int} {N O N' O' : List (List Int)} (hm : May st N O m) (h : Lst m st N O N' O') : ∀ r ∈ O', r ∈ O := by
  intro r hr
  obtain ⟨s, hs, rfl⟩ := List.getElem_of_mem hr
  have hs2 : s < N'.length := by have := h.red.may'.out; omega
  obtain ⟨u, hu, hru⟩ := h.red.word s hs2
  have h1 := h.lang u hu
  rw [hru] at h1
  have h2 : runW (nxF N) st.toNat u < N.length := runW_in (fun x c hx hc => (hm.next hx hc).1) u st.toNat (by have := hm.start; omega) hu
  have h3 : runW (nxF N) st.toNat u < O.length := by have := hm.out; omega
  have e1 : outF O' s = O'[s] := by unfold outF; rw [List.getD_eq_getElem?_getD, List.getElem?_eq_getElem hs]; rfl
  have e2 : outF O (runW (nxF N) st.toNat u) = O[runW (nxF N) st.toNat u] := by unfold outF; rw [List.getD_eq_getElem?_getD, List.getElem?_eq_getElem h3]; rfl
  rw [← e1, h1, e2]
  exact List.getElem_mem _
/-- The machine that known looks at. -/
def kN : List (List Int) := [[1, 1], [0, 2], [2, 2]]
def kO : List (List Int) := [[], [], [5]]
theorem known_red : Red 2 kN kO := by
  refine ⟨by decide, ⟨by decide, by decide⟩, ?_⟩
  have key : ∀ p, p < 3 → ∀ q, q < 3 → p ≠ q → outF kO p ≠ outF kO q ∨ outF kO (nxF kN p 1) ≠ outF kO (nxF kN q 1) := by decide
  intro p q hp hq hs
  apply Classical.byContradiction
  intro hne
  rcases key p hp q hq hne with h | h
  · exact h hs.nil
  · exact h (hs [1] (fun c hc => by rw [List.mem_singleton] at hc; omega))
/-- A machine is small. -/
structure SmlO (N O : List (List Int)) : Prop where
  n : N.length ≤ 2200000
  nr : ∀ r ∈ N, r.length ≤ 2200000
  or : ∀ r ∈ O, r.length ≤ 2200000
  oz : ∀ r ∈ O, ∀ z ∈ r, z < 9223372036854775808
  nm : ∀ m : Nat, (∀ r ∈ N, r.length = m) → N.length * m ≤ 2200000
theorem upF_nn : ∀ {l : List Int} {lo : Int}, upF lo l = true → ∀ z ∈ l, lo ≤ z
  | [], _, _, _, h => by cases h
  | x :: l, lo, h, z, hz => by
    unfold upF at h
    rw [Bool.and_eq_true, decide_eq_true_eq] at h
    rcases List.mem_cons.1 hz with rfl | hz
    · exact h.1
    · have := upF_nn h.2 z hz; omega
theorem SmlO.facts {st : Int} {N O : List (List Int)} {m : Nat} (h : SmlO N O) (hmay : mayF st N O (m : Int) = true) : N.length * m ≤ 2200000 ∧ m ≤ 2200000 ∧ (∀ r ∈ O, ∀ z ∈ r, 0 ≤ z ∧ z < 9223372036854775808) := by
  obtain ⟨n', hn', hm⟩ := mayF_may hmay
  obtain rfl : m = n' := by omega
  have h0 : 0 < N.length := by have := hm.start; omega
  refine ⟨h.nm m hm.row, ?_, fun r hr z hz => ⟨upF_nn (upF_rise hmay r hr) z hz, h.oz r hr z hz⟩⟩
  have h1 := hm.row _ (List.getElem_mem h0)
  have h2 := h.nr _ (List.getElem_mem h0)
  omega
/-- So is its least one. -/
theorem Lst.sml {m : Nat} {st : Int} {N O N' O' : List (List Int)} (hs : SmlO N O) (hmay : mayF st N O (m : Int) = true) (h : Lst m st N O N' O') : SmlO N' O' := by
  obtain ⟨h1, h2, h3⟩ := hs.facts hmay
  obtain ⟨n', hn', hm⟩ := mayF_may hmay
  obtain rfl : m = n' := by omega
  have hl := h.less
  have hr := h.red.may'.row
  refine ⟨by have := hs.n; omega, fun r hr' => by rw [hr r hr']; exact h2, fun r hr' => hs.or r (h.out hm r hr'), fun r hr' => hs.oz r (h.out hm r hr'), fun k hk => ?_⟩
  have h0 : 0 < N'.length := h.red.pos
  have e1 := hk _ (List.getElem_mem h0)
  have e2 := hr _ (List.getElem_mem h0)
  obtain rfl : k = m := by omega
  exact Nat.le_trans (Nat.mul_le_mul_right k hl) h1
end Go.Proofs.YtjemjccgfgijiaaDoor
namespace Go.Proofs.YtjemjccgfgijiaaDoor
open Go.RowKit Go.Shelf
/-- Of, where the machine may be one and is small. -/
theorem of_sml (s0 m : Nat) (N O : List (List Int)) (aN aO : Option Addr) (cN cO : Nat) (w : World) (hmay : mayF (s0 : Int) N O (m : Int) = true) (hs : SmlO N O) (ha : RwA w aN N) (hb : RwA w aO O) :
    Calls Tryd.prog 10 #[.agg #[.int .i64 (s0 : Int), .slice aN N.length cN, .slice aO O.length cO], .int .i64 (m : Int)] w fun e w' => ∃ vN vO, e = .returned (.tuple #[.agg #[.int .i64 0, vN, vO], .nilIface]) ∧ OfR w w' m (s0 : Int) N O vN vO ∧ Below w.heap.size w w' := by
  obtain ⟨h1, h2, h3⟩ := hs.facts hmay
  exact of_yes s0 m N O aN aO cN cO w hmay hs.n h1 h2 hs.or h3 ha hb
theorem of_bad (x : Addr) (st sy : Int) (N O : List (List Int)) (aN aO : Option Addr) (cN cO : Nat) (w : World) (hmay : mayF st N O sy = false) (hs : SmlO N O) (ha : RwA w aN N) (hb : RwA w aO O) (he : E1 w x) :
    Calls Tryd.prog 10 #[.agg #[.int .i64 st, .slice aN N.length cN, .slice aO O.length cO], .int .i64 sy] w fun e w' => e = .returned (.tuple #[.agg #[.int .i64 0, .slice none 0 0, .slice none 0 0], .iface 135 (.pointer (some x))]) ∧ Below w.heap.size w w' :=
  of_no x st sy N O aN aO cN cO w hmay (by have := hs.n; omega) (fun r hr => by have := hs.nr r hr; omega) (fun r hr => by have := hs.or r hr; omega) ha hb he
/-- What Of answers, as lists in memory. -/
theorem OfR.rows {w w' : World} {m : Nat} {st : Int} {N O : List (List Int)} {vN vO : Value} (h : OfR w w' m st N O vN vO) : ∃ N' O' aA cA aB cB, vN = .slice aA N'.length cA ∧ vO = .slice aB O'.length cB ∧ RwA w' aA N' ∧ RwA w' aB O' ∧ Lst m st N O N' O' := by
  obtain ⟨pN, pO, h1, h2, _, _, h3⟩ := h
  obtain ⟨aA, cA, eA, qA⟩ := h1.rwq
  obtain ⟨aB, cB, eB, qB⟩ := h2.rwq
  exact ⟨_, _, aA, cA, aB, cB, eA, eB, qA.rwa, qB.rwa, h3⟩
/-- A machine in a box of its own. -/
structure MBox (w : World) (X : Nat) (s : Int) (vN vO : Value) : Prop where
  r : w.heap[X]? = some (.cells #[.int .i64 s, vN, vO] 24 (0, 0))
theorem MBox.c {w : World} {X : Nat} {s : Int} {vN vO : Value} (h : MBox w X s vN vO) : w.cell? ⟨X, 0, none⟩ = some (.int .i64 s) ∧ w.cell? ⟨X, 1, none⟩ = some vN ∧ w.cell? ⟨X, 2, none⟩ = some vO := by
  refine ⟨?_, ?_, ?_⟩ <;> (rw [cell_of_row _ _ _ _ _ _ h.r]; rfl)
theorem MBox.past {w w' : World} {X : Nat} {s : Int} {vN vO : Value} (h : MBox w X s vN vO) (hb : Below w.heap.size w w') : MBox w' X s vN vO := ⟨(hb.block _ (Array.getElem?_eq_some_iff.1 h.r).1).trans h.r⟩
theorem MBox.new (w : World) (s : Int) (vN vO : Value) : MBox (w.alloc (.cells #[.int .i64 s, vN, vO] 24)) w.heap.size s vN vO := ⟨heap_alloc_new w _⟩
theorem below_alloc (w : World) (o : Obj) : Below w.heap.size w (w.alloc o) := (Below.refl _ _).alloc (Nat.le_refl _) _
set_option maxRecDepth 10000 in
set_option maxHeartbeats 1600000 in
theorem is_any (x : Addr) (st sy : Int) (N O : List (List Int)) (aN aO : Option Addr) (cN cO : Nat) (w : World) (hs : SmlO N O) (ha : RwA w aN N) (hb : RwA w aO O) (he : E1 w x) :
    Calls Tryd.prog 15 #[.agg #[.int .i64 st, .slice aN N.length cN, .slice aO O.length cO], .int .i64 sy] w fun e w' => e = .returned (.bool (isB st N O sy)) ∧ Below w.heap.size w w' := by
  obtain ⟨w0, hw0⟩ : ∃ w0, w0 = w.alloc (.cells #[.int .i64 st, .slice aN N.length cN, .slice aO O.length cO] 24) := ⟨_, rfl⟩
  have hB0 : Below w.heap.size w w0 := by rw [hw0]; exact below_alloc _ _
  have hX0 : MBox w0 w.heap.size st (.slice aN N.length cN) (.slice aO O.length cO) := by rw [hw0]; exact MBox.new _ _ _ _
  obtain ⟨x0, x1, x2⟩ := hX0.c
  have HX0 := hid0 hX0
  have HB0 := hid0 hB0
  have HA := hid0 (ha.past hB0)
  have HO := hid0 (hb.past hB0)
  cases hmay : mayF st N O sy with
  | false =>
    have HV := hid0 (isB_no hmay)
    have HOf := hid0 (of_bad x st sy N O aN aO cN cO w0 hmay hs HA.out HO.out (he.below hB0))
    have hfold := hw0.symm
    clear hw0 ha hb he hB0 hX0 hmay hs
    go_enter Tryd.func15, Tryd.ntmps15
    go_wp2_with (go_at_call 10; go_loud ((refine HOf.out.mono ?_; rintro e w1 ⟨rfl, hb1⟩; have HB1 := hid0 (Below.later HB0.out hb1); clear hb1)))
    go_ret
    exact ⟨by rw [HV.out]; rfl, HB1.out.alloc HB1.out.size _⟩
  | true =>
    obtain ⟨m, hm, hmy⟩ := mayF_may hmay
    subst hm
    obtain ⟨s0, rfl⟩ : ∃ s0 : Nat, st = (s0 : Int) := ⟨st.toNat, by have := hmy.start; omega⟩
    have HOf := hid0 (of_sml s0 m N O aN aO cN cO w0 hmay hs HA.out HO.out)
    have HSm := hid0 hs
    have HOl := hid0 hmy.out
    have hfold := hw0.symm
    clear hw0 ha hb he hB0 hX0 hmay hs hmy
    go_enter Tryd.func15, Tryd.ntmps15
    go_upto_region 2 with (go_at_call 10; go_loud ((refine HOf.out.mono ?_; rintro e w1 ⟨vN, vO, rfl, hof, hb1⟩; obtain ⟨N', O', aA, cA, aB, cB, rfl, rfl, qA, qB, hl⟩ := hof.rows; clear hof; have HB1' := hid0 hb1; have HQ := hid0 (And.intro qA (And.intro qB hl)); clear qA qB hl hb1)))
    obtain ⟨w2, hw2⟩ : ∃ w2, w2 = w1.alloc (.cells #[.int .i64 0, .slice aA N'.length cA, .slice aB O'.length cB] 24) := ⟨_, rfl⟩
    obtain ⟨qA, qB, hl⟩ := HQ.out
    have hB2 : Below w1.heap.size w1 w2 := by rw [hw2]; exact below_alloc _ _
    have hX2 : MBox w2 w1.heap.size 0 (.slice aA N'.length cA) (.slice aB O'.length cB) := by rw [hw2]; exact MBox.new _ _ _ _
    have hB02 : Below w0.heap.size w0 w2 := Below.later HB1'.out hB2
    obtain ⟨z0, z1, z2⟩ := hX2.c
    obtain ⟨y0, y1, y2⟩ := (HX0.out.past hB02).c
    have HBF : Hid (Below w.heap.size w w2) := hid0 (Below.later HB0.out hB02)
    have HS1 := hid0 (sameRowsM_any N N' aN aA cN cA w2 (by have := HSm.out.n; omega) (fun r hr => by have := HSm.out.nr r hr; omega) (HA.out.past hB02) (qA.past hB2))
    have HS2 : Hid (∀ q, Calls Tryd.prog 36 #[.slice aO O.length cO, .slice aB O'.length cB] (w2.drewN q) fun e w' => e = .returned (.bool (decide (O = O'))) ∧ ∃ n, w' = (w2.drewN q).drewN n) := hid0 (fun q => by
      have hq : Below w2.heap.size w2 (w2.drewN q) := below_drew' (Below.refl _ _) q
      exact sameRowsM_any O O' aO aB cO cB (w2.drewN q) (by have := HOl.out; have := HSm.out.n; omega) (fun r hr => by have := HSm.out.or r hr; omega) ((HO.out.past hB02).past hq) ((qB.past hB2).past hq))
    have HV := hid0 (isB_lst hl)
    have q2 := hw2.symm
    clear hw2 hX2 hB02 hB2 hl qA qB HQ x0 x1 x2 hfold HX0 HOf
    by_cases h1 : (s0 : Int) = 0
    · have hE0 : ((s0 : Int) == 0) = true := by simpa using h1
      rw [decide_eq_true h1, Bool.true_and] at HV
      by_cases h2 : N = N'
      · rw [decide_eq_true h2] at HV HS1
        rw [Bool.true_and] at HV
        clear h1 h2
        generalize decide (O = O') = t at *
        go_wp2_with (first | (go_at_call 36; refine HS1.out.mono ?_; rintro e w3 ⟨rfl, n3, hw3⟩; subst hw3; clear HS1) | (go_at_call 36; refine (HS2.out n3).mono ?_; rintro e w4 ⟨rfl, n4, hw4⟩; rw [World.drewN_drewN] at hw4; subst hw4))
        go_ret
        exact ⟨by rw [HV.out]; rfl, below_drew' HBF.out _⟩
      · rw [decide_eq_false h2] at HV HS1
        rw [Bool.false_and] at HV
        clear h1 h2
        go_wp2_with (go_at_call 36; refine HS1.out.mono ?_; rintro e w3 ⟨rfl, n3, hw3⟩; subst hw3; clear HS1)
        go_ret
        exact ⟨by rw [HV.out]; rfl, below_drew' HBF.out _⟩
    · have hE0 : ((s0 : Int) == 0) = false := by simpa using h1
      rw [decide_eq_false h1, Bool.false_and, Bool.false_and] at HV
      go_wp2
      go_ret
      exact ⟨by rw [HV.out]; rfl, HBF.out⟩
end Go.Proofs.YtjemjccgfgijiaaDoor
namespace Go.Proofs.YtjemjccgfgijiaaDoor
open Go.RowKit Go.Shelf
/-- What circle leaves. -/
def CirR (w : World) (G n : Nat) (rt d p : Nat → Nat) (w' : World) : Prop := ∃ p', Frst n p' rt d ∧ rootsF n p' = rootsF n p ∧ Ov w' G n p' ∧ Oth1 w w' G
set_option maxRecDepth 10000 in
set_option maxHeartbeats 1600000 in
theorem circle_any (X G n cap s : Nat) (rt d p : Nat → Nat) (w : World) (hX : X ≠ G) (h7 : w.cell? ⟨X, 7, none⟩ = some (.slice (some ⟨G, 0, none⟩) n cap)) (hF : Frst n p rt d) (ho : Ov w G n p) (hs : s < n) :
    Calls Tryd.prog 70 #[.pointer (some ⟨X, 0, none⟩), .int .i64 (s : Int)] w fun e w' => e = .returned (.int .i64 (rt s : Int)) ∧ CirR w G n rt d p w' := by
  have H7 : Hid (∀ V, Oth1 w V G → V.cell? ⟨X, 7, none⟩ = some (.slice (some ⟨G, 0, none⟩) n cap)) := hid0 (fun V hV => (hV.cell hX).trans h7)
  have HF := hid0 hF
  have HO := hid0 ho
  clear hF ho h7
  go_enter Tryd.func70, Tryd.ntmps70
  go_wp2
  go_loopw [1] (fun i wr => ∃ t : Nat, t < n ∧ i = .int .i64 (t : Int) ∧ rt t = rt s ∧ Hid (CirR w G n rt d p wr)) (fun i _ => d (intOf i).toNat)
  case atStart => exact ⟨s, hs, rfl, rfl, hid0 ⟨p, HF.out, rfl, HO.out, Oth1.refl _ _⟩⟩
  case round =>
    obtain ⟨t, ht, rfl, hrt, HC⟩ := hrel
    obtain ⟨q, hq, hroots, hov, hoth⟩ := HC.out
    have x7 := H7.out wr hoth
    have HQ := hid0 hq
    have HR := hid0 hroots
    have HV := hid0 hov
    have HT := hid0 hoth
    have HRt := hid0 hrt
    clear hq hroots hov hoth hrt HC
    have htI : (t : Int) < (n : Int) := by omega
    have htI0 : (0 : Int) ≤ (t : Int) := by omega
    have c1 := HV.out.cell ht
    by_cases hp : q t = t
    · have hpI : (q t : Int) = (t : Int) := by omega
      rw [hpI] at c1
      have HA : Hid (rt s = t) := hid0 (by rw [← HRt.out]; exact HQ.out.r3 t ht hp)
      clear hp hpI
      go_wp2
      go_ret
      exact ⟨by rw [HA.out]; rfl, q, HQ.out, HR.out, HV.out, HT.out⟩
    · have hpI : ¬ (q t : Int) = (t : Int) := by omega
      have hq1 := HQ.out.lt t ht
      have hq2 := HQ.out.lt _ hq1
      have c2 := HV.out.cell hq1
      have hqI : (q t : Int) < (n : Int) := by omega
      have hqI0 : (0 : Int) ≤ (q t : Int) := by omega
      have f1 := HV.out.frozen t
      obtain ⟨W, hW⟩ : ∃ W, W = wr.drew.setCell ⟨G, t, none⟩ (.int .i64 (q (q t) : Int)) := ⟨_, rfl⟩
      have HW : Hid (CirR w G n rt d p W) := hid0 ⟨putF q t (q (q t)), HQ.out.halve ht hp, by
          rw [← HR.out]
          refine rootsF_congr (fun x _ => ?_)
          unfold putF
          by_cases e : x = t
          · subst e; rw [if_pos rfl]; exact ⟨fun h => absurd h (HQ.out.two ht hp).1, fun h => absurd h hp⟩
          · rw [if_neg e], by rw [hW]; exact (HV.out.keep (W' := wr.drew) rfl).put _, by rw [hW]; exact (HT.out.trans (Oth1.drew _ _)).trans (Oth1.setCell _ _ _ _)⟩
      have HWo : Hid (Ov W G n (putF q t (q (q t)))) := hid0 (by rw [hW]; exact (HV.out.keep (W' := wr.drew) rfl).put _)
      have HX2 : Hid (W.cell? ⟨X, 7, none⟩ = some (.slice (some ⟨G, 0, none⟩) n cap)) := hid0 (H7.out W (by rw [hW]; exact (HT.out.trans (Oth1.drew _ _)).trans (Oth1.setCell _ _ _ _)))
      have hfW := hW.symm
      clear hW
      go_wp2
      refine wp_region_noPanic ?_
      refine wp_region_held_drew (S := (fun V => V.cell? ⟨X, 7, none⟩ = some (.slice (some ⟨G, 0, none⟩) n cap))) (by kernel_rfl) ?_ (fun hHeld => ?_)
      · exact x7
      refine tkV (i := 0) (d := some 14) (v := ?_) rfl (by kernel_rfl) (by kernel_rfl) (by kernel_rfl) rfl (fun _ _ _ h => h) (by rfl) ?_ (by assumption) ?_
      rotate_left
      · (intro w hSw; (try dsimp only at hSw); (try simp only [List.getElem_toArray, List.getElem_cons_zero]); go_simp; try with_reducible rfl)
      try simp only [Act.put, List.setIfInBounds_toArray, List.set_cons_zero, List.set_cons_succ]
      refine tkV (i := 1) (d := some 15) (v := ?_) rfl (by kernel_rfl) (by kernel_rfl) (by kernel_rfl) rfl (fun _ _ _ h => h) (by rfl) ?_ (by assumption) ?_
      rotate_left
      · (intro w hSw; (try dsimp only at hSw); (try simp only [List.getElem_toArray, List.getElem_cons_zero, List.getElem_cons_succ]); go_simp; try with_reducible rfl)
      try simp only [Act.put, List.setIfInBounds_toArray, List.set_cons_zero, List.set_cons_succ]
      refine tkV (i := 2) (d := some 16) (v := ?_) rfl (by kernel_rfl) (by kernel_rfl) (by kernel_rfl) rfl (fun _ _ _ h => h) (by rfl) ?_ (by assumption) ?_
      rotate_left
      · (intro w hSw; (try dsimp only at hSw); (try simp only [List.getElem_toArray, List.getElem_cons_zero, List.getElem_cons_succ]); go_simp; try with_reducible rfl)
      try simp only [Act.put, List.setIfInBounds_toArray, List.set_cons_zero, List.set_cons_succ]
      refine tkV (i := 3) (d := some 17) (v := ?_) rfl (by kernel_rfl) (by kernel_rfl) (by kernel_rfl) rfl (fun _ _ _ h => h) (by rfl) ?_ (by assumption) ?_
      rotate_left
      · (intro w hSw; (try dsimp only at hSw); (try simp only [List.getElem_toArray, List.getElem_cons_zero, List.getElem_cons_succ]); go_simp; try with_reducible rfl)
      try simp only [Act.put, List.setIfInBounds_toArray, List.set_cons_zero, List.set_cons_succ]
      refine tkV (i := 4) (d := some 18) (v := ?_) rfl (by kernel_rfl) (by kernel_rfl) (by kernel_rfl) rfl (fun _ _ _ h => h) (by rfl) ?_ (by assumption) ?_
      rotate_left
      · (intro w hSw; (try dsimp only at hSw); (try simp only [List.getElem_toArray, List.getElem_cons_zero, List.getElem_cons_succ]); go_simp; try with_reducible rfl)
      try simp only [Act.put, List.setIfInBounds_toArray, List.set_cons_zero, List.set_cons_succ]
      refine tkV (i := 5) (d := some 19) (v := ?_) rfl (by kernel_rfl) (by kernel_rfl) (by kernel_rfl) rfl (fun _ _ _ h => h) (by rfl) ?_ (by assumption) ?_
      rotate_left
      · (intro w hSw; (try dsimp only at hSw); (try simp only [List.getElem_toArray, List.getElem_cons_zero, List.getElem_cons_succ]); go_simp; try with_reducible rfl)
      try simp only [Act.put, List.setIfInBounds_toArray, List.set_cons_zero, List.set_cons_succ]
      refine tkV (i := 6) (d := some 20) (v := ?_) rfl (by kernel_rfl) (by kernel_rfl) (by kernel_rfl) rfl (fun _ _ _ h => h) (by rfl) ?_ (by assumption) ?_
      rotate_left
      · (intro w hSw; (try dsimp only at hSw); (try simp only [List.getElem_toArray, List.getElem_cons_zero, List.getElem_cons_succ]); go_simp; try with_reducible rfl)
      try simp only [Act.put, List.setIfInBounds_toArray, List.set_cons_zero, List.set_cons_succ]
      refine tkV (i := 7) (d := some 21) (v := ?_) rfl (by kernel_rfl) (by kernel_rfl) (by kernel_rfl) rfl (fun _ _ _ h => h) (by rfl) ?_ (by assumption) ?_
      rotate_left
      · (intro w hSw; (try dsimp only at hSw); (try simp only [List.getElem_toArray, List.getElem_cons_zero, List.getElem_cons_succ]); go_simp; try with_reducible rfl)
      try simp only [Act.put, List.setIfInBounds_toArray, List.set_cons_zero, List.set_cons_succ]
      refine tkV (i := 8) (d := some 22) (v := ?_) rfl (by kernel_rfl) (by kernel_rfl) (by kernel_rfl) rfl (fun _ _ _ h => h) (by rfl) ?_ (by assumption) ?_
      rotate_left
      · (intro w hSw; (try dsimp only at hSw); (try simp only [List.getElem_toArray, List.getElem_cons_zero, List.getElem_cons_succ]); go_simp; try with_reducible rfl)
      try simp only [Act.put, List.setIfInBounds_toArray, List.set_cons_zero, List.set_cons_succ]
      refine tkV (i := 9) (d := some 23) (v := ?_) rfl (by kernel_rfl) (by kernel_rfl) (by kernel_rfl) rfl (fun _ _ _ h => h) (by rfl) ?_ (by assumption) ?_
      rotate_left
      · (intro w hSw; (try dsimp only at hSw); (try simp only [List.getElem_toArray, List.getElem_cons_zero, List.getElem_cons_succ]); go_simp; try with_reducible rfl)
      try simp only [Act.put, List.setIfInBounds_toArray, List.set_cons_zero, List.set_cons_succ]
      refine tkV (i := 10) (d := some 24) (v := ?_) rfl (by kernel_rfl) (by kernel_rfl) (by kernel_rfl) rfl (fun _ _ _ h => h) (by rfl) ?_ (by assumption) ?_
      rotate_left
      · (intro w hSw; (try dsimp only at hSw); (try simp only [List.getElem_toArray, List.getElem_cons_zero, List.getElem_cons_succ]); go_simp; try with_reducible rfl)
      try simp only [Act.put, List.setIfInBounds_toArray, List.set_cons_zero, List.set_cons_succ]
      refine tkV (i := 11) (d := some 25) (v := ?_) rfl (by kernel_rfl) (by kernel_rfl) (by kernel_rfl) rfl (fun _ _ _ h => h) (by rfl) ?_ (by assumption) ?_
      rotate_left
      · (intro w hSw; (try dsimp only at hSw); (try simp only [List.getElem_toArray, List.getElem_cons_zero, List.getElem_cons_succ]); go_simp; try with_reducible rfl)
      try simp only [Act.put, List.setIfInBounds_toArray, List.set_cons_zero, List.set_cons_succ]
      refine tkV (i := 12) (d := some 26) (v := ?_) rfl (by kernel_rfl) (by kernel_rfl) (by kernel_rfl) rfl (fun _ _ _ h => h) (by rfl) ?_ (by assumption) ?_
      rotate_left
      · (intro w hSw; (try dsimp only at hSw); (try simp only [List.getElem_toArray, List.getElem_cons_zero, List.getElem_cons_succ]); go_simp; try with_reducible rfl)
      try simp only [Act.put, List.setIfInBounds_toArray, List.set_cons_zero, List.set_cons_succ]
      refine tkV (i := 13) (d := some 27) (v := ?_) rfl (by kernel_rfl) (by kernel_rfl) (by kernel_rfl) rfl (fun _ _ _ h => h) (by rfl) ?_ (by assumption) ?_
      rotate_left
      · (intro w hSw; (try dsimp only at hSw); (try simp only [List.getElem_toArray, List.getElem_cons_zero, List.getElem_cons_succ]); go_simp; try with_reducible rfl)
      try simp only [Act.put, List.setIfInBounds_toArray, List.set_cons_zero, List.set_cons_succ]
      refine tkV (i := 14) (d := some 28) (v := ?_) rfl (by kernel_rfl) (by kernel_rfl) (by kernel_rfl) rfl (fun _ _ _ h => h) (by rfl) ?_ (by assumption) ?_
      rotate_left
      · (intro w hSw; (try dsimp only at hSw); (try simp only [List.getElem_toArray, List.getElem_cons_zero, List.getElem_cons_succ]); go_simp; try with_reducible rfl)
      try simp only [Act.put, List.setIfInBounds_toArray, List.set_cons_zero, List.set_cons_succ]
      refine wpAnyH_ready (rs := [15]) (by kernel_rfl) (by simp) (AllReadyH.cons rfl (fun K hK => ?_) AllReadyH.nil)
      try simp only [List.getElem_toArray, List.getElem_cons_zero, List.getElem_cons_succ]
      go_simp
      refine hK.out _ _ ?_ (fun hHeld15 => ?_)
      · assumption
      clear hK K
      (try simp only [Act.put]); (try simp only [List.setIfInBounds_toArray]); (try simp only [List.set_cons_succ]); (try simp only [List.set_cons_zero])
      refine tkV (i := 16) (d := some 30) (v := ?_) rfl (by kernel_rfl) (by kernel_rfl) (by kernel_rfl) rfl (fun _ _ _ h => h) (by rfl) ?_ (by assumption) ?_
      rotate_left
      · (intro w hSw; (try dsimp only at hSw); (try simp only [List.getElem_toArray, List.getElem_cons_zero, List.getElem_cons_succ]); go_simp; try with_reducible rfl)
      try simp only [Act.put, List.setIfInBounds_toArray, List.set_cons_zero, List.set_cons_succ]
      refine wpAnyH_ready (rs := [17]) (by kernel_rfl) (by simp) (AllReadyH.cons rfl (fun K hK => ?_) AllReadyH.nil)
      try simp only [List.getElem_toArray, List.getElem_cons_zero, List.getElem_cons_succ]
      go_simp
      refine hK.out _ _ ?_ (fun hHeld17 => ?_)
      · assumption
      clear hK K
      (try simp only [Act.put]); (try simp only [List.setIfInBounds_toArray]); (try simp only [List.set_cons_succ]); (try simp only [List.set_cons_zero])
      refine tkV (i := 18) (d := some 32) (v := ?_) rfl (by kernel_rfl) (by kernel_rfl) (by kernel_rfl) rfl (fun _ _ _ h => h) (by rfl) ?_ (by assumption) ?_
      rotate_left
      · (intro w hSw; (try dsimp only at hSw); (try simp only [List.getElem_toArray, List.getElem_cons_zero, List.getElem_cons_succ]); go_simp; try with_reducible rfl)
      try simp only [Act.put, List.setIfInBounds_toArray, List.set_cons_zero, List.set_cons_succ]
      refine wpAnyH_ready (rs := [19]) (by kernel_rfl) (by simp) (AllReadyH.cons rfl (fun K hK => ?_) AllReadyH.nil)
      try simp only [List.getElem_toArray, List.getElem_cons_zero, List.getElem_cons_succ]
      go_simp
      refine hK.out _ _ ?_ (fun hHeld19 => ?_)
      · exact HX2.out
      clear hK K
      (try simp only [Act.put]); (try simp only [List.setIfInBounds_toArray]); (try simp only [List.set_cons_succ]); (try simp only [List.set_cons_zero])
      refine wpAnyH_done (by kernel_rfl) ?_ _
      refine NoPanic.normal ?_
      have x7W := HX2.out
      have c3 : W.cell? ⟨G, t, none⟩ = some (.int .i64 (q (q t) : Int)) := by
        have := HWo.out.cell ht
        unfold putF at this
        rw [if_pos rfl] at this
        exact this
      have HRr : Hid (rt (q (q t)) = rt s) := hid0 (by rw [HQ.out.r2 _ hq1, HQ.out.r2 _ ht, HRt.out])
      have HDd : Hid (d (q (q t)) < d t) := hid0 (HQ.out.two ht hp).2
      go_wp2
      go_roundw
      case rel => exact ⟨q (q t), hq2, rfl, HRr.out, HW⟩
      case measure => simpa [intOf] using HDd.out
end Go.Proofs.YtjemjccgfgijiaaDoor
namespace Go.Proofs.YtjemjccgfgijiaaDoor
open Go.RowKit Go.Shelf
/-- Meetings as cells. -/
def mtV (l : List Mt) : List Value := l.flatMap fun x => [.int .i64 (x.a : Int), .int .i64 (x.b : Int), .int .i64 (x.fr : Int), .int .i64 (x.sy : Int)]
theorem mtV_len (l : List Mt) : (mtV l).length = l.length * 4 := by
  induction l with
  | nil => rfl
  | cons x l ih => unfold mtV at *; rw [List.flatMap_cons, List.length_append, ih, List.length_cons]; simp; omega
theorem mtV_snoc (l : List Mt) (x : Mt) : mtV (l ++ [x]) = mtV l ++ [.int .i64 (x.a : Int), .int .i64 (x.b : Int), .int .i64 (x.fr : Int), .int .i64 (x.sy : Int)] := by
  unfold mtV
  rw [List.flatMap_append]
  simp
theorem mtV_at : ∀ (l : List Mt) (k : Nat), k < l.length → (mtV l)[k * 4]? = some (.int .i64 ((l.getD k default).a : Int)) ∧ (mtV l)[k * 4 + 1]? = some (.int .i64 ((l.getD k default).b : Int)) ∧ (mtV l)[k * 4 + 2]? = some (.int .i64 ((l.getD k default).fr : Int)) ∧ (mtV l)[k * 4 + 3]? = some (.int .i64 ((l.getD k default).sy : Int))
  | [], k, h => absurd h (Nat.not_lt_zero _)
  | x :: l, 0, _ => by unfold mtV; rw [List.flatMap_cons]; simp
  | x :: l, k + 1, h => by
    have ih := mtV_at l k (by simpa using h)
    have e : mtV (x :: l) = [.int .i64 (x.a : Int), .int .i64 (x.b : Int), .int .i64 (x.fr : Int), .int .i64 (x.sy : Int)] ++ mtV l := by unfold mtV; rw [List.flatMap_cons]
    have g : (x :: l).getD (k + 1) default = l.getD k default := by simp
    rw [e, g]
    have s0 : (k + 1) * 4 = 4 + k * 4 := by omega
    refine ⟨?_, ?_, ?_, ?_⟩
    · rw [s0, List.getElem?_append_right (by simp)]; simpa using ih.1
    · rw [s0, List.getElem?_append_right (by simp; omega)]; have := ih.2.1; simp only [List.length_cons, List.length_nil]; rw [show 4 + k * 4 + 1 - (0 + 1 + 1 + 1 + 1) = k * 4 + 1 by omega]; exact this
    · rw [s0, List.getElem?_append_right (by simp; omega)]; have := ih.2.2.1; simp only [List.length_cons, List.length_nil]; rw [show 4 + k * 4 + 2 - (0 + 1 + 1 + 1 + 1) = k * 4 + 2 by omega]; exact this
    · rw [s0, List.getElem?_append_right (by simp; omega)]; have := ih.2.2.2; simp only [List.length_cons, List.length_nil]; rw [show 4 + k * 4 + 3 - (0 + 1 + 1 + 1 + 1) = k * 4 + 3 by omega]; exact this
theorem infoMt : (Tryd.prog.info? 92).map (fun i => (i.zero, i.size, i.bytes)) = some (some (.agg #[.int .i64 0, .int .i64 0, .int .i64 0, .int .i64 0]), 4, 32) := by kernel_rfl
/-- The walk in memory. -/
structure Wk (W : World) (lo X G B n : Nat) (v0 v1 v2 v3 v4 v5 vm : Value) (p : Nat → Nat) (l : List Mt) : Prop where
  blk : W.heap[X]? = some (.cells #[v0, v1, v2, v3, v4, v5, vm, .slice (some ⟨G, 0, none⟩) n n] 89 (0, 0))
  ov : Ov W G n p
  met : W.ownsRow B 92 4 vm l.length (mtV l)
  xg : X ≠ G
  xb : X < B
  gb : G < B
  bs : B ≤ W.heap.size
  lx : lo ≤ X
  lg : lo ≤ G
section
variable {W W' : World} {lo X G B n : Nat} {v0 v1 v2 v3 v4 v5 vm : Value} {p : Nat → Nat} {l : List Mt}
theorem Wk.cell (h : Wk W lo X G B n v0 v1 v2 v3 v4 v5 vm p l) : W.cell? ⟨X, 0, none⟩ = some v0 ∧ W.cell? ⟨X, 1, none⟩ = some v1 ∧ W.cell? ⟨X, 2, none⟩ = some v2 ∧ W.cell? ⟨X, 3, none⟩ = some v3 ∧ W.cell? ⟨X, 4, none⟩ = some v4 ∧ W.cell? ⟨X, 5, none⟩ = some v5 ∧ W.cell? ⟨X, 6, none⟩ = some vm ∧ W.cell? ⟨X, 7, none⟩ = some (.slice (some ⟨G, 0, none⟩) n n) := by
  refine ⟨?_, ?_, ?_, ?_, ?_, ?_, ?_, ?_⟩ <;> (rw [cell_of_row _ _ _ _ _ _ h.blk]; rfl)
theorem Wk.frozen (h : Wk W lo X G B n v0 v1 v2 v3 v4 v5 vm p l) (o : Nat) : W.frozen? ⟨X, o, none⟩ = false := by simp [World.frozen?, h.blk]
theorem Wk.form (h : Wk W lo X G B n v0 v1 v2 v3 v4 v5 vm p l) : ∃ a c, vm = .slice a l.length c ∧ ∀ k, k < l.length → ∃ g, a = some ⟨g, 0, none⟩ ∧ W.cell? ⟨g, k * 4, none⟩ = some (.int .i64 ((l.getD k default).a : Int)) ∧ W.cell? ⟨g, k * 4 + 1, none⟩ = some (.int .i64 ((l.getD k default).b : Int)) ∧ W.cell? ⟨g, k * 4 + 2, none⟩ = some (.int .i64 ((l.getD k default).fr : Int)) ∧ W.cell? ⟨g, k * 4 + 3, none⟩ = some (.int .i64 ((l.getD k default).sy : Int)) := by
  have h0 := h.met
  rcases h.met.2 with ⟨e, hn⟩ | ⟨g, cap, cur, e, hg, hr, hc, _⟩
  · exact ⟨none, 0, by rw [e, hn], fun k hk => by omega⟩
  · refine ⟨_, cap, e, fun k hk => ⟨g, rfl, ?_⟩⟩
    subst e
    obtain ⟨m0, m1, m2, m3⟩ := mtV_at l k hk
    have c0 := World.ownsRow.cellAt h0 (k * 4) (by omega)
    have c1 := World.ownsRow.cellAt h0 (k * 4 + 1) (by omega)
    have c2 := World.ownsRow.cellAt h0 (k * 4 + 2) (by omega)
    have c3 := World.ownsRow.cellAt h0 (k * 4 + 3) (by omega)
    exact ⟨c0.trans m0, c1.trans m1, c2.trans m2, c3.trans m3⟩
theorem Wk.past (h : Wk W lo X G B n v0 v1 v2 v3 v4 v5 vm p l) (hb : Below W.heap.size W W') : Wk W' lo X G B n v0 v1 v2 v3 v4 v5 vm p l :=
  ⟨(hb.block _ (Array.getElem?_eq_some_iff.1 h.blk).1).trans h.blk, h.ov.keep (hb.block _ h.ov.lt), own_blk h.met (fun k hk => hb.block _ (World.ownsRow.lt h.met k hk).2), h.xg, h.xb, h.gb, Nat.le_trans h.bs hb.size, h.lx, h.lg⟩
/-- The nodes above have changed. -/
theorem Wk.over (h : Wk W lo X G B n v0 v1 v2 v3 v4 v5 vm p l) {q : Nat → Nat} (ho : Oth1 W W' G) (hq : Ov W' G n q) : Wk W' lo X G B n v0 v1 v2 v3 v4 v5 vm q l :=
  ⟨(ho.oth _ h.xg).trans h.blk, hq, own_blk h.met (fun k hk => ho.oth _ (by have := (World.ownsRow.lt h.met k hk).1; have := h.gb; omega)), h.xg, h.xb, h.gb, by rw [ho.size]; exact h.bs, h.lx, h.lg⟩
theorem Oth1.below (ho : Oth1 W W' G) (hl : lo ≤ G) : Below lo W W' := ⟨ho.os, ho.tape, ho.output, by rw [ho.size]; exact Nat.le_refl _, fun k hk => ho.oth k (by omega)⟩
/-- One more meeting. -/
theorem Wk.snoc {w2 : World} {v2' : Value} {x : Mt} {o : Obj} (h : Wk W lo X G B n v0 v1 v2 v3 v4 v5 vm p l) (hg : ((W.drew).alloc o).grownBy w2 vm.ownBlock) (hown : w2.ownsRow B 92 4 v2' (l.length + 1) (mtV l ++ [.int .i64 (x.a : Int), .int .i64 (x.b : Int), .int .i64 (x.fr : Int), .int .i64 (x.sy : Int)])) :
    Wk (w2.setCell ⟨X, 6, none⟩ v2') lo X G B n v0 v1 v2 v3 v4 v5 v2' p (l ++ [x]) ∧ w2.cell? ⟨X, 6, none⟩ = some vm ∧ w2.frozen? ⟨X, 6, none⟩ = false ∧ Below lo W (w2.setCell ⟨X, 6, none⟩ v2') := by
  have hs := h.bs
  have hlow : ∀ q, vm.ownBlock = some q → B ≤ q := fun q hq => (World.ownsRow.lt h.met q hq).1
  have hxb := h.xb
  have hgb := h.gb
  have hlx := h.lx
  have hlg := h.lg
  have hsd : (W.drew.alloc o).heap.size = W.heap.size + 1 := by show (W.alloc o).heap.size = _; simp
  have key : ∀ b, b < B → w2.heap[b]? = W.heap[b]? := fun b hb => by
    rw [hg.block b (by rw [hsd]; omega) (fun q => by have := hlow b q.symm; omega)]
    exact Below.heap_alloc W.drew _ b (by show b < W.heap.size; omega)
  have e2 := (key X hxb).trans h.blk
  have hsz : B ≤ w2.heap.size := by
    have := hg.size
    omega
  have hbel : Below lo W w2 := by
    have hb0 : Below lo W (W.drew.alloc o) := by
      have := ((Below.refl lo W).alloc (by omega) o)
      exact ⟨this.os, this.tape, this.output, this.size, this.block⟩
    exact hb0.grown hg (by omega) (fun q hq => by have := hlow q hq; omega)
  refine ⟨⟨heap_setCell_same _ _ 6 _ _ v2' e2, ?_, ?_, h.xg, hxb, hgb, by simpa [World.setCell] using hsz, hlx, hlg⟩, by rw [cell_of_row _ _ _ _ _ _ e2]; rfl, by simp [World.frozen?, e2], hbel.setCell (p := ⟨X, 6, none⟩) hlx _⟩
  · exact h.ov.keep ((Below.heap_setCell _ _ _ _ (by have := h.xg; show G ≠ X; omega)).trans (key G hgb))
  · rw [List.length_append, List.length_singleton, mtV_snoc]
    exact own_blk hown (fun q hq => Below.heap_setCell _ _ _ _ (by have := (World.ownsRow.lt hown q hq).1; show q ≠ X; omega))
end
/-- What the circles say. -/
structure Lg (T : Two) (na nb : Nat) (p rt d : Nat → Nat) (l : List Mt) : Prop where
  fr : Frst (na + nb) p rt d
  ci : Circ T na (na + nb) rt l
  rc : l.length + rootsF (na + nb) p = na + nb
  inm : InM na nb l
/-- What meet leaves. -/
def MeetR (T : Two) (na nb lo X G B : Nat) (v0 v1 v2 v3 v4 v5 : Value) (l : List Mt) (x : Mt) (w w' : World) : Prop := ∃ p rt d l' vm, Wk w' lo X G B (na + nb) v0 v1 v2 v3 v4 v5 vm p l' ∧ Lg T na nb p rt d l' ∧ ((l' = l ∧ ∀ v, T.dis x.a x.b v → ∃ k, k < l.length ∧ T.dis (l.getD k default).a (l.getD k default).b v) ∨ l' = l ++ [x]) ∧ Below lo w w'
end Go.Proofs.YtjemjccgfgijiaaDoor
namespace Go.Proofs.YtjemjccgfgijiaaDoor
open Go.RowKit Go.Shelf
theorem four_new (w : World) (a b c d : Value) (t : TypeId) : ∀ j u, [a, b, c, d][j]? = some u → (w.alloc (.cells #[a, b, c, d] t)).cell? ((⟨w.heap.size, 0, none⟩ : Addr).add j) = some u := by
  intro j u hj
  have hr := heap_alloc_new w (.cells #[a, b, c, d] t)
  rw [Addr.add_lit, Nat.zero_add, cell_of_row _ _ _ _ _ _ hr]
  simpa using hj
set_option maxRecDepth 10000 in
set_option maxHeartbeats 1600000 in
theorem meet_any (T : Two) (na nb lo X G B x y f s cN : Nat) (v0 v2 v3 v4 v5 vm : Value) (aN : Option Addr) (p rt d : Nat → Nat) (l : List Mt) (w : World) (hx : x < na) (hy : y < nb) (hbig : na + nb ≤ 100000000000) (hk : Wk w lo X G B (na + nb) v0 (.slice aN na cN) v2 v3 v4 v5 vm p l) (hg : Lg T na nb p rt d l) :
    Calls Tryd.prog 60 #[.pointer (some ⟨X, 0, none⟩), .agg #[.int .i64 (x : Int), .int .i64 (y : Int), .int .i64 (f : Int), .int .i64 (s : Int)]] w fun e w' => e = .returned (.tuple #[]) ∧ MeetR T na nb lo X G B v0 (.slice aN na cN) v2 v3 v4 v5 l ⟨x, y, f, s⟩ w w' := by
  obtain ⟨i0, hi, hz0, hz1, hz2⟩ := info_parts infoMt
  obtain ⟨w0, hw0⟩ : ∃ w0, w0 = w.alloc (.cells #[.int .i64 (x : Int), .int .i64 (y : Int), .int .i64 (f : Int), .int .i64 (s : Int)] 92) := ⟨_, rfl⟩
  have hB0 : Below w.heap.size w w0 := by rw [hw0]; exact (Below.refl _ _).alloc (Nat.le_refl _) _
  have hY0 : w0.heap[w.heap.size]? = some (.cells #[.int .i64 (x : Int), .int .i64 (y : Int), .int .i64 (f : Int), .int .i64 (s : Int)] 92 (0, 0)) := by rw [hw0]; exact heap_alloc_new w _
  have hsz0 : w0.heap.size = w.heap.size + 1 := by rw [hw0]; simp
  have hk0 := hk.past hB0
  have hloW : lo ≤ w.heap.size := by have := hk.lx; have := hk.xb; have := hk.bs; omega
  have hGw : G < w.heap.size := by have := hk.gb; have := hk.bs; omega
  have hXw : X < w.heap.size := by have := hk.xb; have := hk.bs; omega
  have hBw : B ≤ w.heap.size := hk.bs
  have HB0 : Hid (Below lo w w0) := hid0 (hB0.mono hloW)
  have HY0 := hid0 hY0
  have HK0 := hid0 hk0
  have HWn := hid0 hk
  have HG := hid0 hg
  have HXG : Hid (X ≠ G) := hid0 hk.xg
  have hll : l.length ≤ na + nb := by have := hg.rc; omega
  obtain ⟨z0, z1, _, _, _, _, z6, z7⟩ := hk0.cell
  have y0 : w0.cell? ⟨w.heap.size, 0, none⟩ = some (.int .i64 (x : Int)) := by rw [cell_of_row _ _ _ _ _ _ hY0]; rfl
  have y1 : w0.cell? ⟨w.heap.size, 1, none⟩ = some (.int .i64 (y : Int)) := by rw [cell_of_row _ _ _ _ _ _ hY0]; rfl
  have HSt : Hid (∀ V : World, Oth1 w0.drew V G → V.cell? ⟨X, 1, none⟩ = some (.slice aN na cN) ∧ V.cell? ⟨w.heap.size, 0, none⟩ = some (.int .i64 (x : Int)) ∧ V.cell? ⟨w.heap.size, 1, none⟩ = some (.int .i64 (y : Int))) := hid0 (fun V hV => ⟨(hV.cell HXG.out).trans z1, (hV.cell (by omega)).trans y0, (hV.cell (by omega)).trans y1⟩)
  have HX7 : Hid (∀ V : World, Oth1 w0.drew V G → V.cell? ⟨X, 7, none⟩ = some (.slice (some ⟨G, 0, none⟩) (na + nb) (na + nb))) := hid0 (fun V hV => (hV.cell HXG.out).trans z7)
  have HC1 := hid0 (circle_any X G (na + nb) (na + nb) x rt d p w0.drew HXG.out z7 hg.fr (hk0.ov.keep rfl) (by omega))
  obtain ⟨ny, hny⟩ : ∃ ny, ny = na + y := ⟨_, rfl⟩
  have hny2 : ny < na + nb := by omega
  have hnyI : (na : Int) + (y : Int) = (ny : Int) := by omega
  have hnyW : IntKind.i64.wrap (ny : Int) = (ny : Int) := by simp [IntKind.wrap, IntKind.bits, IntKind.signed]; omega
  have HNy := hid0 hny
  have HZ0 := hid0 hsz0
  have hfold := hw0.symm
  clear hsz0 hw0 hk hk0 hg hB0 hY0 hny z0 z6 z7
  go_enter Tryd.func60, Tryd.ntmps60
  go_wp2
  refine wp_region_noPanic ?_
  refine wp_region_held_drew (S := (fun V => V.cell? ⟨X, 1, none⟩ = some (.slice aN na cN) ∧ V.cell? ⟨w.heap.size, 0, none⟩ = some (.int .i64 (x : Int)) ∧ V.cell? ⟨w.heap.size, 1, none⟩ = some (.int .i64 (y : Int)))) (by kernel_rfl) ?_ (fun hHeld => ?_)
  · exact ⟨z1, y0, y1⟩
  refine tkV (i := 0) (d := some 6) (v := ?_) rfl (by kernel_rfl) (by kernel_rfl) (by kernel_rfl) rfl (fun _ _ _ h => h) (by rfl) ?_ (by assumption) ?_
  rotate_left
  · (intro w hSw; (try dsimp only at hSw); (try simp only [List.getElem_toArray, List.getElem_cons_zero]); go_simp; try with_reducible rfl)
  try simp only [Act.put, List.setIfInBounds_toArray, List.set_cons_zero, List.set_cons_succ]
  refine tkV (i := 1) (d := some 7) (v := ?_) rfl (by kernel_rfl) (by kernel_rfl) (by kernel_rfl) rfl (fun _ _ _ h => h) (by rfl) ?_ (by assumption) ?_
  rotate_left
  · (intro w hSw; (try dsimp only at hSw); (try simp only [List.getElem_toArray, List.getElem_cons_zero, List.getElem_cons_succ]); go_simp; try with_reducible rfl)
  try simp only [Act.put, List.setIfInBounds_toArray, List.set_cons_zero, List.set_cons_succ]
  refine tkV (i := 2) (d := some 8) (v := ?_) rfl (by kernel_rfl) (by kernel_rfl) (by kernel_rfl) rfl (fun _ _ _ h => h) (by rfl) ?_ (by assumption) ?_
  rotate_left
  · (intro w hSw; (try dsimp only at hSw); (try simp only [List.getElem_toArray, List.getElem_cons_zero, List.getElem_cons_succ]); go_simp; try with_reducible rfl)
  try simp only [Act.put, List.setIfInBounds_toArray, List.set_cons_zero, List.set_cons_succ]
  refine tkV (i := 4) (d := some 10) (v := ?_) rfl (by kernel_rfl) (by kernel_rfl) (by kernel_rfl) rfl (fun _ _ _ h => h) (by rfl) ?_ (by assumption) ?_
  rotate_left
  · (intro w hSw; (try dsimp only at hSw); (try simp only [List.getElem_toArray, List.getElem_cons_zero, List.getElem_cons_succ]); go_simp; try with_reducible rfl)
  try simp only [Act.put, List.setIfInBounds_toArray, List.set_cons_zero, List.set_cons_succ]
  refine tkV (i := 5) (d := some 11) (v := ?_) rfl (by kernel_rfl) (by kernel_rfl) (by kernel_rfl) rfl (fun _ _ _ h => h) (by rfl) ?_ (by assumption) ?_
  rotate_left
  · (intro w hSw; (try dsimp only at hSw); (try simp only [List.getElem_toArray, List.getElem_cons_zero, List.getElem_cons_succ]); go_simp; try with_reducible rfl)
  try simp only [Act.put, List.setIfInBounds_toArray, List.set_cons_zero, List.set_cons_succ]
  refine tkV (i := 6) (d := some 12) (v := ?_) rfl (by kernel_rfl) (by kernel_rfl) (by kernel_rfl) rfl (fun _ _ _ h => h) (by rfl) ?_ (by assumption) ?_
  rotate_left
  · (intro w hSw; (try dsimp only at hSw); (try simp only [List.getElem_toArray, List.getElem_cons_zero, List.getElem_cons_succ]); go_simp; try with_reducible rfl)
  try simp only [Act.put, List.setIfInBounds_toArray, List.set_cons_zero, List.set_cons_succ]
  refine tkV (i := 7) (d := some 13) (v := ?_) rfl (by kernel_rfl) (by kernel_rfl) (by kernel_rfl) rfl (fun _ _ _ h => h) (by rfl) ?_ (by assumption) ?_
  rotate_left
  · (intro w hSw; (try dsimp only at hSw); (try simp only [List.getElem_toArray, List.getElem_cons_zero, List.getElem_cons_succ]); go_simp; try with_reducible rfl)
  try simp only [Act.put, List.setIfInBounds_toArray, List.set_cons_zero, List.set_cons_succ]
  refine tkV (i := 8) (d := some 14) (v := ?_) rfl (by kernel_rfl) (by kernel_rfl) (by kernel_rfl) rfl (fun _ _ _ h => h) (by rfl) ?_ (by assumption) ?_
  rotate_left
  · (intro w hSw; (try dsimp only at hSw); (try simp only [List.getElem_toArray, List.getElem_cons_zero, List.getElem_cons_succ]); go_simp; try with_reducible rfl)
  try simp only [Act.put, List.setIfInBounds_toArray, List.set_cons_zero, List.set_cons_succ]
  refine tkV (i := 9) (d := some 15) (v := ?_) rfl (by kernel_rfl) (by kernel_rfl) (by kernel_rfl) rfl (fun _ _ _ h => h) (by rfl) ?_ (by assumption) ?_
  rotate_left
  · (intro w hSw; (try dsimp only at hSw); (try simp only [List.getElem_toArray, List.getElem_cons_zero, List.getElem_cons_succ]); go_simp; try with_reducible rfl)
  try simp only [Act.put, List.setIfInBounds_toArray, List.set_cons_zero, List.set_cons_succ]
  refine tkV (i := 10) (d := some 16) (v := ?_) rfl (by kernel_rfl) (by kernel_rfl) (by kernel_rfl) rfl (fun _ _ _ h => h) (by rfl) ?_ (by assumption) ?_
  rotate_left
  · (intro w hSw; (try dsimp only at hSw); (try simp only [List.getElem_toArray, List.getElem_cons_zero, List.getElem_cons_succ]); go_simp; try with_reducible rfl)
  try simp only [Act.put, List.setIfInBounds_toArray, List.set_cons_zero, List.set_cons_succ]
  refine tkV (i := 11) (d := some 17) (v := ?_) rfl (by kernel_rfl) (by kernel_rfl) (by kernel_rfl) rfl (fun _ _ _ h => h) (by rfl) ?_ (by assumption) ?_
  rotate_left
  · (intro w hSw; (try dsimp only at hSw); (try simp only [List.getElem_toArray, List.getElem_cons_zero, List.getElem_cons_succ]); go_simp; try with_reducible rfl)
  try simp only [Act.put, List.setIfInBounds_toArray, List.set_cons_zero, List.set_cons_succ]
  refine tkV (i := 12) (d := some 18) (v := ?_) rfl (by kernel_rfl) (by kernel_rfl) (by kernel_rfl) rfl (fun _ _ _ h => h) (by rfl) ?_ (by assumption) ?_
  rotate_left
  · (intro w hSw; (try dsimp only at hSw); (try simp only [List.getElem_toArray, List.getElem_cons_zero, List.getElem_cons_succ]); go_simp; try with_reducible rfl)
  try simp only [Act.put, List.setIfInBounds_toArray, List.set_cons_zero, List.set_cons_succ]
  refine tkV (i := 13) (d := some 19) (v := ?_) rfl (by kernel_rfl) (by kernel_rfl) (by kernel_rfl) rfl (fun _ _ _ h => h) (by rfl) ?_ (by assumption) ?_
  rotate_left
  · (intro w hSw; (try dsimp only at hSw); (try simp only [List.getElem_toArray, List.getElem_cons_zero, List.getElem_cons_succ]); go_simp; try with_reducible rfl)
  try simp only [Act.put, List.setIfInBounds_toArray, List.set_cons_zero, List.set_cons_succ]
  refine wpAnyH_ready (rs := [3]) (by kernel_rfl) (by simp) (AllReadyH.cons rfl (fun K hK => ?_) AllReadyH.nil)
  try simp only [List.getElem_toArray, List.getElem_cons_zero, List.getElem_cons_succ]
  go_simp
  refine HC1.out.mono ?_
  rintro e w1 ⟨rfl, hc1⟩
  have HR1 := hid0 hc1
  have HS1 := hid0 (HSt.out w1 (by obtain ⟨_, _, _, _, ho⟩ := hc1; exact ho))
  clear hc1
  go_wp2_with fail
  refine hK.out _ _ ?_ (fun hHeld3 => ?_)
  · exact HS1.out
  clear hK K
  (try simp only [Act.put]); (try simp only [List.setIfInBounds_toArray]); (try simp only [List.set_cons_succ]); (try simp only [List.set_cons_zero])
  refine wpAnyH_ready (rs := [14]) (by kernel_rfl) (by simp) (AllReadyH.cons rfl (fun K hK => ?_) AllReadyH.nil)
  try simp only [List.getElem_toArray, List.getElem_cons_zero, List.getElem_cons_succ]
  go_simp
  obtain ⟨p1, hF1, hr1, hv1, ho1⟩ := HR1.out
  refine (circle_any X G (na + nb) (na + nb) ny rt d p1 w1 HXG.out (HX7.out w1 ho1) hF1 hv1 hny2).mono ?_
  rintro e w2 ⟨rfl, p2, hF2, hr2, hv2, ho2⟩
  have HF2 := hid0 hF2
  have HV2 := hid0 hv2
  have HO2 := hid0 (ho1.trans ho2)
  have HRt2 := hid0 (hr2.trans hr1)
  have HS2 := hid0 (HSt.out w2 (ho1.trans ho2))
  clear hF1 hr1 hv1 ho1 hF2 hr2 hv2 ho2
  go_wp2_with fail
  refine hK.out _ _ ?_ (fun hHeld14 => ?_)
  · exact HS2.out
  clear hK K
  (try simp only [Act.put]); (try simp only [List.setIfInBounds_toArray]); (try simp only [List.set_cons_succ]); (try simp only [List.set_cons_zero])
  refine tkV (i := 15) (d := some 4) (v := ?_) rfl (by kernel_rfl) (by kernel_rfl) (by kernel_rfl) rfl (fun _ _ _ h => h) (by rfl) ?_ (by assumption) ?_
  rotate_left
  · (intro w hSw; (try dsimp only at hSw); (try simp only [List.getElem_toArray, List.getElem_cons_zero, List.getElem_cons_succ]); go_simp; try with_reducible rfl)
  try simp only [Act.put, List.setIfInBounds_toArray, List.set_cons_zero, List.set_cons_succ]
  refine tkV (i := 16) (d := some 5) (v := ?_) rfl (by kernel_rfl) (by kernel_rfl) (by kernel_rfl) rfl (fun _ _ _ h => h) (by rfl) ?_ (by assumption) ?_
  rotate_left
  · (intro w hSw; (try dsimp only at hSw); (try simp only [List.getElem_toArray, List.getElem_cons_zero, List.getElem_cons_succ]); go_simp; try with_reducible rfl)
  try simp only [Act.put, List.setIfInBounds_toArray, List.set_cons_zero, List.set_cons_succ]
  refine wpAnyH_done (by kernel_rfl) ?_ _
  refine NoPanic.normal ?_
  clear hfold hHeld hHeld3 hHeld14
  have hra := HF2.out.r0 x (by omega)
  have hrb := HF2.out.r0 ny (by omega)
  have HPa := hid0 (HF2.out.r1 x (by omega))
  have HPb := hid0 (HF2.out.r1 ny (by omega))
  have HW2 := hid0 (HK0.out.past (below_drew' (Below.refl _ _) 1) |>.over (W' := w2) (by exact HO2.out) HV2.out)
  have HB2 : Hid (Below lo w w2) := hid0 (HB0.out.trans ((below_drew' (Below.refl _ _) 1).trans (HO2.out.below HK0.out.lg)))
  have HYb : Hid (w2.heap[w.heap.size]? = some (.cells #[.int .i64 (x : Int), .int .i64 (y : Int), .int .i64 (f : Int), .int .i64 (s : Int)] 92 (0, 0))) := hid0 ((HO2.out.oth _ (by omega)).trans HY0.out)
  have hsz2 : w2.heap.size = w.heap.size + 1 := by rw [HO2.out.size]; exact HZ0.out
  by_cases hab : rt x = rt ny
  · have HE : Hid (rt x = rt (na + y)) := hid0 (by rw [hab, HNy.out])
    have hfin : MeetR T na nb lo X G B v0 (.slice aN na cN) v2 v3 v4 v5 l ⟨x, y, f, s⟩ w w2 := ⟨p2, rt, d, l, vm, HW2.out, ⟨HF2.out, HG.out.ci, by rw [HRt2.out]; exact HG.out.rc, HG.out.inm⟩, .inl ⟨rfl, HG.out.ci.cov hx hy HE.out⟩, HB2.out⟩
    have HFin := hid0 hfin
    clear hfin
    have habI : (rt x : Int) = (rt ny : Int) := by omega
    clear hab
    generalize rt x = ra at *
    generalize rt ny = rb at *
    go_wp2
    refine bodyPost_ret (results_none rfl _ _ _) rfl ?_
    exact ⟨rfl, HFin.out⟩
  · have habI : ¬ (rt x : Int) = (rt ny : Int) := by omega
    obtain ⟨_, _, _, _, _, _, x6, x7⟩ := HW2.out.cell
    have hrbI : (rt ny : Int) < ((na + nb : Nat) : Int) := by omega
    have hrbI0 : (0 : Int) ≤ (rt ny : Int) := by omega
    have fz := HW2.out.ov.frozen (rt ny)
    have cb := HW2.out.ov.cell hrb
    obtain ⟨w3, hw3⟩ : ∃ w3, w3 = w2.setCell ⟨G, rt ny, none⟩ (.int .i64 (rt x : Int)) := ⟨_, rfl⟩
    have ho3 : Oth1 w2 w3 G := by rw [hw3]; exact Oth1.setCell _ _ _ _
    have hW3 := HW2.out.over ho3 (by rw [hw3]; exact HW2.out.ov.put (rt x))
    have HW3 := hid0 hW3
    have HB3 : Hid (Below lo w w3) := hid0 (HB2.out.trans (ho3.below HK0.out.lg))
    have hY3 : w3.heap[w.heap.size]? = some (.cells #[.int .i64 (x : Int), .int .i64 (y : Int), .int .i64 (f : Int), .int .i64 (s : Int)] 92 (0, 0)) := (ho3.oth _ (by omega)).trans HYb.out
    have hsz3 : w3.heap.size = w.heap.size + 1 := by rw [ho3.size]; exact hsz2
    have mkY : ∀ V : World, V.heap[w.heap.size]? = w3.heap[w.heap.size]? → V.cell? ⟨w.heap.size, 0, none⟩ = some (.int .i64 (x : Int)) ∧ V.cell? ⟨w.heap.size, 1, none⟩ = some (.int .i64 (y : Int)) ∧ V.cell? ⟨w.heap.size, 2, none⟩ = some (.int .i64 (f : Int)) ∧ V.cell? ⟨w.heap.size, 3, none⟩ = some (.int .i64 (s : Int)) := fun V hV => by
      have h := hV.trans hY3
      refine ⟨?_, ?_, ?_, ?_⟩ <;> (rw [cell_of_row _ _ _ _ _ _ h]; rfl)
    have HLg : Hid (Lg T na nb (putF p2 (rt ny) (rt x)) (fun z => if rt z = rt ny then rt x else rt z) (fun z => if rt z = rt ny then d z + d (rt x) + 1 else d z) (l ++ [⟨x, y, f, s⟩])) := hid0 ⟨HF2.out.unite hra hrb HPa.out HPb.out hab, by rw [HNy.out]; exact HG.out.ci.unite hx hy f s, by
        have h1 := rootsF_unite (p := p2) HPb.out hab (na + nb)
        rw [if_pos hrb, HRt2.out] at h1
        have h2 := HG.out.rc
        rw [List.length_append, List.length_singleton]
        omega, HG.out.inm.snoc hx hy⟩
    obtain ⟨am, cm, rfl, _⟩ := HW2.out.form
    have HNo : Hid (¬ (Value.slice am l.length cm).ownBlock = some w.heap.size) := hid0 (fun q => by have := (World.ownsRow.lt HWn.out.met _ q).2; omega)
    have HOwn : Hid ((w3.drew.alloc (.cells #[.int .i64 (x : Int), .int .i64 (y : Int), .int .i64 (f : Int), .int .i64 (s : Int)] 92)).ownsRow B 92 4 (.slice am l.length cm) l.length (mtV l)) := hid0 (World.ownsRow.alloc (w := w3.drew) (own_blk hW3.met (fun _ _ => rfl)) _)
    have HNew := hid0 (four_new w3.drew (.int .i64 (x : Int)) (.int .i64 (y : Int)) (.int .i64 (f : Int)) (.int .i64 (s : Int)) 92)
    have HY3 := hid0 (mkY w3.drew rfl)
    obtain ⟨_, _, _, _, _, _, r6, _⟩ := hW3.cell
    have q6 : w3.drew.cell? ⟨X, 6, none⟩ = some (.slice am l.length cm) := r6
    have HYA := hid0 (mkY (w3.drew.alloc (.cells #[.int .i64 (x : Int), .int .i64 (y : Int), .int .i64 (f : Int), .int .i64 (s : Int)] 92)) (Below.heap_alloc w3.drew _ _ (by show w.heap.size < w3.heap.size; omega)))
    have q6a : (w3.alloc (.cells #[.int .i64 (x : Int), .int .i64 (y : Int), .int .i64 (f : Int), .int .i64 (s : Int)] 92)).cell? ⟨X, 6, none⟩ = some (.slice am l.length cm) := cell_alloc r6 _
    have HYk : Hid (∀ w4 : World, (w3.drew.alloc (.cells #[.int .i64 (x : Int), .int .i64 (y : Int), .int .i64 (f : Int), .int .i64 (s : Int)] 92)).grownBy w4 (Value.slice am l.length cm).ownBlock → w4.cell? ⟨w.heap.size, 0, none⟩ = some (.int .i64 (x : Int)) ∧ w4.cell? ⟨w.heap.size, 1, none⟩ = some (.int .i64 (y : Int)) ∧ w4.cell? ⟨w.heap.size, 2, none⟩ = some (.int .i64 (f : Int)) ∧ w4.cell? ⟨w.heap.size, 3, none⟩ = some (.int .i64 (s : Int))) := hid0 (fun w4 hw4 => mkY w4 ((hw4.block _ (by show w.heap.size < (w3.alloc _).heap.size; simp; omega) (fun q => HNo.out q.symm)).trans (Below.heap_alloc w3.drew _ _ (by show w.heap.size < w3.heap.size; omega))))
    have HYs : Hid (∀ (w4 : World) (v : Value), (w4.cell? ⟨w.heap.size, 0, none⟩ = some (.int .i64 (x : Int)) ∧ w4.cell? ⟨w.heap.size, 1, none⟩ = some (.int .i64 (y : Int)) ∧ w4.cell? ⟨w.heap.size, 2, none⟩ = some (.int .i64 (f : Int)) ∧ w4.cell? ⟨w.heap.size, 3, none⟩ = some (.int .i64 (s : Int))) → ((w4.setCell ⟨X, 6, none⟩ v).cell? ⟨w.heap.size, 0, none⟩ = some (.int .i64 (x : Int)) ∧ (w4.setCell ⟨X, 6, none⟩ v).cell? ⟨w.heap.size, 1, none⟩ = some (.int .i64 (y : Int)) ∧ (w4.setCell ⟨X, 6, none⟩ v).cell? ⟨w.heap.size, 2, none⟩ = some (.int .i64 (f : Int)) ∧ (w4.setCell ⟨X, 6, none⟩ v).cell? ⟨w.heap.size, 3, none⟩ = some (.int .i64 (s : Int)))) := hid0 (fun w4 v h => by
      have hh : (w4.setCell ⟨X, 6, none⟩ v).heap[w.heap.size]? = w4.heap[w.heap.size]? := Below.heap_setCell _ _ _ _ (by show w.heap.size ≠ X; omega)
      exact ⟨(World.cell?_of_block (w := w4) hh).trans h.1, (World.cell?_of_block (w := w4) hh).trans h.2.1, (World.cell?_of_block (w := w4) hh).trans h.2.2.1, (World.cell?_of_block (w := w4) hh).trans h.2.2.2⟩)
    have hfold3 := hw3.symm
    have HZ3 := hid0 hsz3
    clear hsz3 hsz2
    clear hw3 mkY hY3 hW3 ho3 r6 x6 hab HF2 HV2 HO2 HPa HPb
    generalize rt x = ra at *
    generalize rt ny = rb at *
    go_wp2
    refine wp_region_noPanic ?_
    refine wp_region_held_drew (S := fun V => V.cell? ⟨w.heap.size, 0, none⟩ = some (.int .i64 (x : Int)) ∧ V.cell? ⟨w.heap.size, 1, none⟩ = some (.int .i64 (y : Int)) ∧ V.cell? ⟨w.heap.size, 2, none⟩ = some (.int .i64 (f : Int)) ∧ V.cell? ⟨w.heap.size, 3, none⟩ = some (.int .i64 (s : Int))) (by kernel_rfl) ?_ (fun hHeld => ?_)
    · exact HY3.out
    refine tkV (i := 0) (d := some 31) (v := ?_) rfl (by kernel_rfl) (by kernel_rfl) (by kernel_rfl) rfl (fun _ _ _ h => h) (by rfl) ?_ (by assumption) ?_
    rotate_left
    · (intro w hSw; (try dsimp only at hSw); (try simp only [List.getElem_toArray, List.getElem_cons_zero]); go_simp; try with_reducible rfl)
    try simp only [Act.put, List.setIfInBounds_toArray, List.set_cons_zero, List.set_cons_succ]
    refine tkV (i := 1) (d := some 32) (v := ?_) rfl (by kernel_rfl) (by kernel_rfl) (by kernel_rfl) rfl (fun _ _ _ h => h) (by rfl) ?_ (by assumption) ?_
    rotate_left
    · (intro w hSw; (try dsimp only at hSw); (try simp only [List.getElem_toArray, List.getElem_cons_zero, List.getElem_cons_succ]); go_simp; try with_reducible rfl)
    try simp only [Act.put, List.setIfInBounds_toArray, List.set_cons_zero, List.set_cons_succ]
    refine tkV (i := 2) (d := some 33) (v := ?_) rfl (by kernel_rfl) (by kernel_rfl) (by kernel_rfl) rfl (fun _ _ _ h => h) (by rfl) ?_ (by assumption) ?_
    rotate_left
    · (intro w hSw; (try dsimp only at hSw); (try simp only [List.getElem_toArray, List.getElem_cons_zero, List.getElem_cons_succ]); go_simp; try with_reducible rfl)
    try simp only [Act.put, List.setIfInBounds_toArray, List.set_cons_zero, List.set_cons_succ]
    refine tkV (i := 3) (d := some 34) (v := ?_) rfl (by kernel_rfl) (by kernel_rfl) (by kernel_rfl) rfl (fun _ _ _ h => h) (by rfl) ?_ (by assumption) ?_
    rotate_left
    · (intro w hSw; (try dsimp only at hSw); (try simp only [List.getElem_toArray, List.getElem_cons_zero, List.getElem_cons_succ]); go_simp; try with_reducible rfl)
    try simp only [Act.put, List.setIfInBounds_toArray, List.set_cons_zero, List.set_cons_succ]
    refine tkV (i := 5) (d := some 36) (v := ?_) rfl (by kernel_rfl) (by kernel_rfl) (by kernel_rfl) rfl (fun _ _ _ h => h) (by rfl) ?_ (by assumption) ?_
    rotate_left
    · (intro w hSw; (try dsimp only at hSw); (try simp only [List.getElem_toArray, List.getElem_cons_zero, List.getElem_cons_succ]); go_simp; try with_reducible rfl)
    try simp only [Act.put, List.setIfInBounds_toArray, List.set_cons_zero, List.set_cons_succ]
    refine wpAnyH_ready (rs := [4, 6]) (by kernel_rfl) (by simp) (AllReadyH.cons rfl (fun K hK => ?_) (AllReadyH.cons rfl (fun K hK => ?_) AllReadyH.nil))
    · try simp only [List.getElem_toArray, List.getElem_cons_zero, List.getElem_cons_succ]
      go_simp
      refine hK.out _ _ ?_ (fun hHeld4 => ?_)
      · first | assumption | exact HY3.out | exact HY4.out | exact HY5.out
      clear hK K
      try (try simp only [Act.put]); (try simp only [List.setIfInBounds_toArray]); (try simp only [List.set_cons_succ]); (try simp only [List.set_cons_zero])
      refine wpAnyH_ready (rs := [6]) (by kernel_rfl) (by simp) (AllReadyH.cons rfl (fun K hK => ?_) AllReadyH.nil)
      try simp only [List.getElem_toArray, List.getElem_cons_zero, List.getElem_cons_succ]
      go_simp
      refine hK.out _ _ ?_ (fun hHeld6 => ?_)
      · first | assumption | exact HY3.out | exact HY4.out | exact HY5.out
      clear hK K
      try (try simp only [Act.put]); (try simp only [List.setIfInBounds_toArray]); (try simp only [List.set_cons_succ]); (try simp only [List.set_cons_zero])
      refine wpAnyH_ready (rs := [7]) (by kernel_rfl) (by simp) (AllReadyH.cons rfl (fun K hK => ?_) AllReadyH.nil)
      refine step_append_own_at (by rfl) _ _ 87 (by rfl) B 92 i0 _ 4 32 Tryd.underlying87 hi hz0 hz1 hz2 rfl (by decide) (.slice am l.length cm) l.length (mtV l) (by rfl) HOwn.out ⟨w3.heap.size, 0, none⟩ 1 1 [.int .i64 (x : Int), .int .i64 (y : Int), .int .i64 (f : Int), .int .i64 (s : Int)] (by rfl) (by rfl) HNew.out (by simp [Value.oneCell']) (by unfold maxLen; omega) (by omega) (by have := HZ3.out; simp; omega) ?_
      intro v4 w4 hown4 hgrow4 _
      obtain ⟨g4, cap4, rfl⟩ := Go.Joins.ownsRow_form hown4 (Nat.succ_pos _)
      obtain ⟨hk4, c6, f6, hb4⟩ := HW3.out.snoc (x := ⟨x, y, f, s⟩) hgrow4 hown4
      have HK4 := hid0 hk4
      have HB4 := hid0 hb4
      have HY4 := hid0 (HYk.out w4 hgrow4)
      have HY5 := hid0 (HYs.out w4 (.slice (some ⟨g4, 0, none⟩) (l.length + 1) cap4) HY4.out)
      clear hk4 hb4 hown4 hgrow4
      refine hK.out _ _ ?_ (fun hHeld7 => ?_)
      · exact HY4.out
      clear hK K
      try (try simp only [Act.put]); (try simp only [List.setIfInBounds_toArray]); (try simp only [List.set_cons_succ]); (try simp only [List.set_cons_zero])
      refine tkV (i := 8) (d := some 39) (v := ?_) rfl (by kernel_rfl) (by kernel_rfl) (by kernel_rfl) rfl (fun _ _ _ h => h) (by rfl) ?_ (by assumption) ?_
      rotate_left
      · (intro w hSw; (try dsimp only at hSw); (try simp only [List.getElem_toArray, List.getElem_cons_zero, List.getElem_cons_succ]); go_simp; try with_reducible rfl)
      (try simp only [Act.put]); (try simp only [List.setIfInBounds_toArray]); (try simp only [List.set_cons_succ]); (try simp only [List.set_cons_zero])
      refine tkV (i := 9) (d := some 40) (v := ?_) rfl (by kernel_rfl) (by kernel_rfl) (by kernel_rfl) rfl (fun _ _ _ h => h) (by rfl) ?_ (by assumption) ?_
      rotate_left
      · (intro w hSw; (try dsimp only at hSw); (try simp only [List.getElem_toArray, List.getElem_cons_zero, List.getElem_cons_succ]); go_simp; try with_reducible rfl)
      (try simp only [Act.put]); (try simp only [List.setIfInBounds_toArray]); (try simp only [List.set_cons_succ]); (try simp only [List.set_cons_zero])
      refine wpAnyH_ready (rs := [10]) (by kernel_rfl) (by simp) (AllReadyH.cons rfl (fun K hK => ?_) AllReadyH.nil)
      try simp only [List.getElem_toArray, List.getElem_cons_zero, List.getElem_cons_succ]
      go_simp
      refine hK.out _ _ ?_ (fun hHeld10 => ?_)
      · exact HY5.out
      clear hK K
      (try simp only [Act.put]); (try simp only [List.setIfInBounds_toArray]); (try simp only [List.set_cons_succ]); (try simp only [List.set_cons_zero])
      refine wpAnyH_done (by kernel_rfl) ?_ _
      refine NoPanic.normal ?_
      go_wp2
      refine bodyPost_end (results_none rfl _ _ _) rfl ?_
      exact ⟨rfl, _, _, _, _, _, HK4.out, HLg.out, .inr rfl, HB3.out.trans HB4.out⟩
    · try simp only [List.getElem_toArray, List.getElem_cons_zero, List.getElem_cons_succ]
      go_simp
      refine hK.out _ _ ?_ (fun hHeld6 => ?_)
      · first | assumption | exact HY3.out | exact HY4.out | exact HY5.out
      clear hK K
      try (try simp only [Act.put]); (try simp only [List.setIfInBounds_toArray]); (try simp only [List.set_cons_succ]); (try simp only [List.set_cons_zero])
      refine wpAnyH_ready (rs := [4]) (by kernel_rfl) (by simp) (AllReadyH.cons rfl (fun K hK => ?_) AllReadyH.nil)
      try simp only [List.getElem_toArray, List.getElem_cons_zero, List.getElem_cons_succ]
      go_simp
      refine hK.out _ _ ?_ (fun hHeld4 => ?_)
      · first | assumption | exact HY3.out | exact HY4.out | exact HY5.out
      clear hK K
      try (try simp only [Act.put]); (try simp only [List.setIfInBounds_toArray]); (try simp only [List.set_cons_succ]); (try simp only [List.set_cons_zero])
      refine wpAnyH_ready (rs := [7]) (by kernel_rfl) (by simp) (AllReadyH.cons rfl (fun K hK => ?_) AllReadyH.nil)
      refine step_append_own_at (by rfl) _ _ 87 (by rfl) B 92 i0 _ 4 32 Tryd.underlying87 hi hz0 hz1 hz2 rfl (by decide) (.slice am l.length cm) l.length (mtV l) (by rfl) HOwn.out ⟨w3.heap.size, 0, none⟩ 1 1 [.int .i64 (x : Int), .int .i64 (y : Int), .int .i64 (f : Int), .int .i64 (s : Int)] (by rfl) (by rfl) HNew.out (by simp [Value.oneCell']) (by unfold maxLen; omega) (by omega) (by have := HZ3.out; simp; omega) ?_
      intro v4 w4 hown4 hgrow4 _
      obtain ⟨g4, cap4, rfl⟩ := Go.Joins.ownsRow_form hown4 (Nat.succ_pos _)
      obtain ⟨hk4, c6, f6, hb4⟩ := HW3.out.snoc (x := ⟨x, y, f, s⟩) hgrow4 hown4
      have HK4 := hid0 hk4
      have HB4 := hid0 hb4
      have HY4 := hid0 (HYk.out w4 hgrow4)
      have HY5 := hid0 (HYs.out w4 (.slice (some ⟨g4, 0, none⟩) (l.length + 1) cap4) HY4.out)
      clear hk4 hb4 hown4 hgrow4
      refine hK.out _ _ ?_ (fun hHeld7 => ?_)
      · exact HY4.out
      clear hK K
      try (try simp only [Act.put]); (try simp only [List.setIfInBounds_toArray]); (try simp only [List.set_cons_succ]); (try simp only [List.set_cons_zero])
      refine tkV (i := 8) (d := some 39) (v := ?_) rfl (by kernel_rfl) (by kernel_rfl) (by kernel_rfl) rfl (fun _ _ _ h => h) (by rfl) ?_ (by assumption) ?_
      rotate_left
      · (intro w hSw; (try dsimp only at hSw); (try simp only [List.getElem_toArray, List.getElem_cons_zero, List.getElem_cons_succ]); go_simp; try with_reducible rfl)
      (try simp only [Act.put]); (try simp only [List.setIfInBounds_toArray]); (try simp only [List.set_cons_succ]); (try simp only [List.set_cons_zero])
      refine tkV (i := 9) (d := some 40) (v := ?_) rfl (by kernel_rfl) (by kernel_rfl) (by kernel_rfl) rfl (fun _ _ _ h => h) (by rfl) ?_ (by assumption) ?_
      rotate_left
      · (intro w hSw; (try dsimp only at hSw); (try simp only [List.getElem_toArray, List.getElem_cons_zero, List.getElem_cons_succ]); go_simp; try with_reducible rfl)
      (try simp only [Act.put]); (try simp only [List.setIfInBounds_toArray]); (try simp only [List.set_cons_succ]); (try simp only [List.set_cons_zero])
      refine wpAnyH_ready (rs := [10]) (by kernel_rfl) (by simp) (AllReadyH.cons rfl (fun K hK => ?_) AllReadyH.nil)
      try simp only [List.getElem_toArray, List.getElem_cons_zero, List.getElem_cons_succ]
      go_simp
      refine hK.out _ _ ?_ (fun hHeld10 => ?_)
      · exact HY5.out
      clear hK K
      (try simp only [Act.put]); (try simp only [List.setIfInBounds_toArray]); (try simp only [List.set_cons_succ]); (try simp only [List.set_cons_zero])
      refine wpAnyH_done (by kernel_rfl) ?_ _
      refine NoPanic.normal ?_
      go_wp2
      refine bodyPost_end (results_none rfl _ _ _) rfl ?_
      exact ⟨rfl, _, _, _, _, _, HK4.out, HLg.out, .inr rfl, HB3.out.trans HB4.out⟩
end Go.Proofs.YtjemjccgfgijiaaDoor
namespace Go.Proofs.YtjemjccgfgijiaaDoor
open Go.RowKit Go.Shelf
theorem own_typ {w : World} {base : Nat} {t : TypeId} {size n : Nat} {v : Value} {xs : List Value} (h : w.ownsRow base t size v n xs) {g : Nat} (hg : v.ownBlock = some g) : ∃ cs, w.heap[g]? = some (.cells cs t (0, 0)) := by
  rcases h.2 with ⟨e, _⟩ | ⟨g', cap, cur, e, _, hr, _⟩
  · rw [e] at hg; cases hg
  · rw [e] at hg
    obtain rfl : g' = g := by simpa [Value.ownBlock] using hg
    exact ⟨cur, hr⟩
/-- Rows of unlike types lie in unlike blocks. -/
theorem own_unlike {w : World} {b1 b2 : Nat} {t1 t2 : TypeId} {s1 s2 n1 n2 : Nat} {v1 v2 : Value} {x1 x2 : List Value} (h1 : w.ownsRow b1 t1 s1 v1 n1 x1) (h2 : w.ownsRow b2 t2 s2 v2 n2 x2) (ht : t1 ≠ t2) : ∀ g, v1.ownBlock = some g → v2.ownBlock ≠ some g := fun g h3 h4 => by
  obtain ⟨c1, e1⟩ := own_typ h1 h3
  obtain ⟨c2, e2⟩ := own_typ h2 h4
  rw [e1] at e2
  cases e2
  exact ht rfl
abbrev Lz := List (Value × Nat × List Int)
/-- A slice of lists: each shows its beginning alone. -/
structure Pz (w : World) (base : Nat) (v : Value) (qs : Lz) : Prop where
  outer : w.ownsRow base 25 1 v qs.length (qs.map (·.1))
  row : ∀ x ∈ qs, ∃ g c, x.1 = .slice (some ⟨g, 0, none⟩) x.2.1 c ∧ x.2.1 ≤ x.2.2.length ∧ OwnI w base (.slice (some ⟨g, 0, none⟩) x.2.2.length c) x.2.2
theorem Pz.nil (w : World) (base : Nat) : Pz w base (.slice none 0 0) [] := ⟨World.ownsRow_nil _ _ _ _, fun x h => by cases h⟩
theorem Pz.later {w w' : World} {base : Nat} {v : Value} {qs : Lz} (h : Pz w base v qs) (hb : Below w.heap.size w w') : Pz w' base v qs :=
  ⟨row_later h.outer hb, fun x hx => by obtain ⟨g, c, e, hl, ho⟩ := h.row x hx; exact ⟨g, c, e, hl, row_later ho hb⟩⟩
/-- One more, made behind. -/
theorem Pz.snoc {W wr w1 w : World} {base : Nat} {v v' : Value} {qs : Lz} {r : List Int} {g c m : Nat} {o : Obj} {n : Nat} (hn : n = qs.length) (h : Pz W base v qs) (hk : Below W.heap.size W wr) (hm : m ≤ r.length) (hx : OwnI wr W.heap.size (.slice (some ⟨g, 0, none⟩) r.length c) r) (hbase : base ≤ W.heap.size)
    (hown' : w1.ownsRow base 25 1 v' (n + 1) (qs.map (·.1) ++ [.slice (some ⟨g, 0, none⟩) m c])) (hgrow : (wr.alloc o).grownBy w1 v.ownBlock) (hb : Below base w W) :
    Pz w1 base v' (qs ++ [(.slice (some ⟨g, 0, none⟩) m c, m, r)]) ∧ Below base w w1 := by
  subst hn
  have h2 := h.later hk
  have hs := hk.size
  have old : ∀ {n : Nat} {u : Value} {xs : List Value} {b : Nat}, wr.ownsRow b 3 1 u n xs → w1.ownsRow b 3 1 u n xs := fun {n u xs b} hu => by
    refine World.ownsRow.kept (World.ownsRow.alloc hu o) hgrow ?_
    cases e : u.ownBlock with
    | none => exact .inl rfl
    | some g => exact .inr fun hc => own_unlike h2.outer hu (by decide) g hc.symm e
  refine ⟨⟨?_, ?_⟩, ?_⟩
  · rw [List.length_append, List.map_append]
    exact hown'
  · intro y hy
    rcases List.mem_append.1 hy with hy | hy
    · obtain ⟨g1, c1, e1, hl1, ho1⟩ := h2.row y hy
      exact ⟨g1, c1, e1, hl1, old ho1⟩
    · rw [List.mem_singleton] at hy
      subst hy
      exact ⟨g, c, rfl, hm, owns_lower (old hx) hbase⟩
  · refine ((hb.trans (hk.mono hbase)).alloc ?_ o).grown hgrow ?_ (fun k hk' => (World.ownsRow.lt h.outer k hk').1)
    · omega
    · simp; omega
def m77 : List Int := List.replicate 64 (-77)
def rowZ (r : List Int) : Nat × List Int := (r.length, r ++ m77)
/-- The lists, and the marks behind them. -/
def Fits (qs : Lz) (L : List (List Int)) (m : Nat) : Prop := qs.map (·.2) = L.map rowZ ++ List.replicate m (1, [(-78 : Int)])
theorem Fits.len {qs : Lz} {L : List (List Int)} {m : Nat} (h : Fits qs L m) : qs.length = L.length + m := by
  have := congrArg List.length h
  simpa using this
theorem Fits.row {qs : Lz} {L : List (List Int)} {m k : Nat} (h : Fits qs L m) (hk : k < L.length) : ∃ x, qs[k]? = some x ∧ x.2 = rowZ L[k] := by
  have h1 : (qs.map (·.2))[k]? = some (rowZ L[k]) := by
    rw [h, List.getElem?_append_left (by simpa using hk)]
    simp [hk]
  rw [List.getElem?_map, Option.map_eq_some_iff] at h1
  obtain ⟨x, h2, h3⟩ := h1
  exact ⟨x, h2, h3⟩
theorem Fits.mark {qs : Lz} {L : List (List Int)} {m k : Nat} (h : Fits qs L m) (hk : k < m) : ∃ x, qs[L.length + k]? = some x ∧ x.2 = (1, [(-78 : Int)]) := by
  have h1 : (qs.map (·.2))[L.length + k]? = some (1, [(-78 : Int)]) := by
    rw [h, List.getElem?_append_right (by simp), List.length_map, Nat.add_sub_cancel_left, List.getElem?_replicate, if_pos hk]
  rw [List.getElem?_map, Option.map_eq_some_iff] at h1
  obtain ⟨x, h2, h3⟩ := h1
  exact ⟨x, h2, h3⟩
theorem Fits.snoc {qs : Lz} {L : List (List Int)} {v : Value} {r : List Int} (h : Fits qs L 0) : Fits (qs ++ [(v, r.length, r ++ m77)]) (L ++ [r]) 0 := by
  unfold Fits at *
  rw [List.map_append, h, List.map_append]
  simp [rowZ]
theorem Fits.more {qs : Lz} {L : List (List Int)} {v : Value} {m : Nat} (h : Fits qs L m) : Fits (qs ++ [(v, 1, [-78])]) L (m + 1) := by
  unfold Fits at *
  rw [List.map_append, h, List.append_assoc, List.replicate_succ']
  rfl
theorem Pz.cell {w : World} {base g n c : Nat} {qs : Lz} (h : Pz w base (.slice (some ⟨g, 0, none⟩) n c) qs) (hn : n = qs.length) {k : Nat} {x : Value × Nat × List Int} (hx : qs[k]? = some x) : w.cell? ⟨g, k, none⟩ = some x.1 := by
  subst hn
  obtain ⟨hk, e⟩ := List.getElem?_eq_some_iff.1 hx
  rw [World.ownsRow.cellAt h.outer k (by omega), List.getElem?_map, hx]
  rfl
/-- A machine's lists, as twin made them. -/
structure Tz (w : World) (base G c : Nat) (L : List (List Int)) : Prop where
  at' : ∃ qs, Pz w base (.slice (some ⟨G, 0, none⟩) (L.length + 64) c) qs ∧ Fits qs L 64
theorem Tz.later {w w' : World} {base G c : Nat} {L : List (List Int)} (h : Tz w base G c L) (hb : Below w.heap.size w w') : Tz w' base G c L := by
  obtain ⟨qs, h1, h2⟩ := h.at'
  exact ⟨qs, h1.later hb, h2⟩
theorem Tz.cap {w : World} {base G c : Nat} {L : List (List Int)} (h : Tz w base G c L) : L.length + 64 ≤ c ∧ base ≤ G ∧ G < w.heap.size := by
  obtain ⟨qs, h1, h2⟩ := h.at'
  have h3 := World.ownsRow.lt h1.outer G rfl
  have hl := h2.len
  obtain ⟨g', cap, e, _, _, h4⟩ := own_form h1.outer (by omega)
  simp only [Value.slice.injEq] at e
  obtain ⟨_, _, rfl⟩ := e
  exact ⟨by omega, h3⟩
theorem Tz.row {w : World} {base G c : Nat} {L : List (List Int)} (h : Tz w base G c L) {k : Nat} (hk : k < L.length) : ∃ g cg, w.cell? ⟨G, k, none⟩ = some (.slice (some ⟨g, 0, none⟩) L[k].length cg) ∧ L[k].length + 64 ≤ cg ∧ IA w (some ⟨g, 0, none⟩) L[k] ∧ (∀ j, j < 64 → w.cell? ⟨g, L[k].length + j, none⟩ = some (.int .i64 (-77))) ∧ base ≤ g ∧ g < w.heap.size ∧ ∀ j, w.frozen? ⟨g, j, none⟩ = false := by
  obtain ⟨qs, h1, h2⟩ := h.at'
  obtain ⟨x, hx, ex⟩ := h2.row hk
  obtain ⟨g, cg, e1, hl, ho⟩ := h1.row x (List.mem_of_getElem? hx)
  have hc := h1.cell h2.len.symm hx
  rw [e1] at hc
  rw [ex] at hc hl ho
  simp only [rowZ] at hc hl ho
  have hlen : (L[k] ++ m77).length = L[k].length + 64 := by rw [List.length_append]; simp [m77]
  have hca : L[k].length + 64 ≤ cg := by
    obtain ⟨g', cap, e, _, _, h4⟩ := own_form ho (by omega)
    simp only [Value.slice.injEq] at e
    obtain ⟨_, _, rfl⟩ := e
    omega
  have hcell : ∀ j (hj : j < (L[k] ++ m77).length), w.cell? ⟨g, j, none⟩ = some (.int .i64 (L[k] ++ m77)[j]) := fun j hj => by
    rw [World.ownsRow.cellAt ho j (by omega), List.getElem?_map, List.getElem?_eq_getElem hj]
    rfl
  have hgl := World.ownsRow.lt ho g rfl
  refine ⟨g, cg, hc, hca, ⟨fun j hj => ⟨g, 0, rfl, hgl.2, ?_⟩⟩, fun j hj => ?_, hgl.1, hgl.2, fun j => World.ownsRow.frozenAt ho j⟩
  · rw [Nat.zero_add, hcell j (by omega), List.getElem_append_left hj]
  · have e77 : ∀ (i : Nat) (h : i < m77.length), m77[i] = -77 := fun i h => by unfold m77; exact List.getElem_replicate _
    rw [hcell (L[k].length + j) (by omega), List.getElem_append_right (by omega), e77]
theorem Tz.mark {w : World} {base G c : Nat} {L : List (List Int)} (h : Tz w base G c L) {k : Nat} (hk : k < 64) : ∃ g cg, w.cell? ⟨G, L.length + k, none⟩ = some (.slice (some ⟨g, 0, none⟩) 1 cg) ∧ w.cell? ⟨g, 0, none⟩ = some (.int .i64 (-78)) := by
  obtain ⟨qs, h1, h2⟩ := h.at'
  obtain ⟨x, hx, ex⟩ := h2.mark hk
  obtain ⟨g, cg, e1, hl, ho⟩ := h1.row x (List.mem_of_getElem? hx)
  have hc := h1.cell h2.len.symm hx
  rw [e1] at hc
  rw [ex] at hc ho
  simp only at hc ho
  refine ⟨g, cg, hc, ?_⟩
  rw [World.ownsRow.cellAt ho 0 (by simp)]
  rfl
theorem Tz.rwa {w : World} {base G c : Nat} {L : List (List Int)} (h : Tz w base G c L) : RwA w (some ⟨G, 0, none⟩) L := ⟨fun k hk => by
  obtain ⟨g, cg, h1, _, h2, _⟩ := h.row hk
  exact ⟨G, 0, rfl, h.cap.2.2, some ⟨g, 0, none⟩, cg, by rw [Nat.zero_add]; exact h1, h2⟩⟩
end Go.Proofs.YtjemjccgfgijiaaDoor
namespace Go.Proofs.YtjemjccgfgijiaaDoor
open Go.RowKit Go.Shelf
/-- Pairs in memory: what leads to each. -/
structure TwA (W : World) (a : Option Addr) (l : List Mt) : Prop where
  at' : ∀ k, k < l.length → ∃ b off, a = some ⟨b, off, none⟩ ∧ b < W.heap.size ∧ W.cell? ⟨b, off + k * 4 + 2, none⟩ = some (.int .i64 (if k = 0 then -1 else ((l.getD k default).fr : Int))) ∧ W.cell? ⟨b, off + k * 4 + 3, none⟩ = some (.int .i64 ((l.getD k default).sy : Int))
theorem TwA.past {W W' : World} {a : Option Addr} {l : List Mt} (h : TwA W a l) (hb : Below W.heap.size W W') : TwA W' a l := ⟨fun k hk => by
  obtain ⟨b, off, e, h1, h2, h3⟩ := h.at' k hk
  exact ⟨b, off, e, Nat.lt_of_lt_of_le h1 hb.size, (hb.cell (p := ⟨b, off + k * 4 + 2, none⟩) h1).trans h2, (hb.cell (p := ⟨b, off + k * 4 + 3, none⟩) h1).trans h3⟩⟩
theorem Met.len {T : Two} {l : List Mt} {W : Nat → List Nat} (h : Met T l W) : ∀ k, k < l.length → (W k).length ≤ k := by
  intro k
  induction k using Nat.strongRecOn with
  | _ k ih =>
    intro hk
    by_cases h0 : k = 0
    · subst h0; rw [h.z.1]; simp
    · obtain ⟨h1, _, h3, _⟩ := h.st k (by omega) hk
      have := ih _ h1 (by omega)
      rw [h3, List.length_append, List.length_singleton]
      omega
end Go.Proofs.YtjemjccgfgijiaaDoor
namespace Go.Proofs.YtjemjccgfgijiaaDoor
open Go.RowKit Go.Shelf
theorem app_nilI (w : World) (ty : TypeId) : (Builtin.append_ #[25, 25] ty #[.slice none 0 0, .slice none 0 0]).run Tryd.prog w = .ok (.slice none 0 0) w := by
  go_simp
theorem wpList_spreadI {ops : Array Oper} {rest : List Oper} {op : Oper} {a : Act} {w : World} {Q : Exit → Act → World → Prop} (hgd : op.guard = none) (s x : Operand) (ho : op.op = .call { callee := .builtin .append, args := #[s, x], argTypes := #[25, 25] })
    (aN : Option Addr) (L : List Int) (cN base : Nat) (hs : a.eval s = .slice none 0 0) (hx : a.eval x = .slice aN L.length cN) (hnil : aN = none → cN = 0) (ha : IA w aN L) (hl : L.length ≤ 17592186044416) (hb : base ≤ w.heap.size)
    (h : ∀ v' w', OwnI w' base v' L → w.grownBy w' none → wpList Tryd.prog ops Q rest (a.put op.dst v') w') : wpList Tryd.prog ops Q (op :: rest) a w := by
  obtain ⟨i0, hi, hz0, hz1, hz2⟩ := info_parts infoInt
  cases aN with
  | none =>
    have hL : L = [] := by
      cases L with
      | nil => rfl
      | cons y r => obtain ⟨b, off, e, _⟩ := ha.at' 0 (by simp); cases e
    subst hL
    have hc := hnil rfl
    subst hc
    refine wpList_plain hgd fun K hK => ?_
    have hr := app_nilI w op.type
    unfold Oper.wp execOp
    simp only [ho, resolve, invoke, builtin, Sem.run_bind, Sem.run_pure, Result.andThen_ok, List.map_toArray, List.map_cons, List.map_nil, hs, hx, List.length_nil, hr]
    exact hK _ _ (h _ _ (World.ownsRow_nil _ _ _ _) ⟨rfl, rfl, rfl, Nat.le_refl _, fun _ _ _ => rfl⟩)
  | some ad =>
    refine wpList_append_own _ hgd s x 25 ho base 3 i0 (.int .i64 0) 1 8 Tryd.underlying25 hi hz0 hz1 hz2 rfl (by decide) (.slice none 0 0) 0 [] hs (World.ownsRow_nil _ _ _ _) ad L.length cN (L.map (Value.int .i64)) hx (by simp) (fun j u hu => ?_) (fun u hu => by obtain ⟨y, _, rfl⟩ := List.mem_map.1 hu; rfl) (by unfold maxLen; omega) (by omega) hb (fun v' w' h1 h2 _ => h v' w' (by rw [Nat.zero_add, List.nil_append] at h1; exact h1) h2)
    have hj : j < L.length := by have := (List.getElem?_eq_some_iff.1 hu).1; simpa using this
    obtain ⟨b, off, e, h1, h2⟩ := ha.at' j hj
    cases e
    rw [Addr.add_mid, h2]
    have : (L.map (Value.int .i64))[j]? = some (.int .i64 L[j]) := by simp [hj]
    rw [this] at hu
    exact hu
/-- Lists that are handed in: those without memory have no room. -/
structure RwN (w : World) (a : Option Addr) (L : List (List Int)) : Prop where
  at' : ∀ k (h : k < L.length), ∃ b off, a = some ⟨b, off, none⟩ ∧ b < w.heap.size ∧ ∃ a1 c1, w.cell? ⟨b, off + k, none⟩ = some (.slice a1 (L[k]).length c1) ∧ IA w a1 L[k] ∧ (a1 = none → c1 = 0)
theorem RwN.rwa {w : World} {a : Option Addr} {L : List (List Int)} (h : RwN w a L) : RwA w a L := ⟨fun k hk => by
  obtain ⟨b, off, e, h1, a1, c1, h2, h3, _⟩ := h.at' k hk
  exact ⟨b, off, e, h1, a1, c1, h2, h3⟩⟩
theorem RwN.past {w w' : World} {a : Option Addr} {L : List (List Int)} (h : RwN w a L) (hb : Below w.heap.size w w') : RwN w' a L := ⟨fun k hk => by
  obtain ⟨b, off, rfl, h1, a1, c1, h2, h3, h4⟩ := h.at' k hk
  exact ⟨b, off, rfl, Nat.lt_of_lt_of_le h1 hb.size, a1, c1, (hb.cell (p := ⟨b, off + k, none⟩) h1).trans h2, h3.past hb, h4⟩⟩
set_option maxRecDepth 10000 in
set_option maxHeartbeats 1600000 in
theorem rows_any (L : List (List Int)) (a : Option Addr) (cap : Nat) (w : World) (hl : L.length ≤ 2200000) (hr : ∀ r ∈ L, r.length ≤ 2200000) (ha : RwN w a L) :
    Calls Tryd.prog 40 #[.slice a L.length cap] w fun r w' => ∃ G c, r = .returned (.slice (some ⟨G, 0, none⟩) L.length c) ∧ Tz w' w.heap.size G c L ∧ Below w.heap.size w w' := by
  obtain ⟨i0, hi, hz0, hz1, hz2⟩ := info_parts infoInts
  obtain ⟨j0, hj, hy0, hy1, hy2⟩ := info_parts infoInt
  have HA := hid0 ha
  have HR := hid0 hr
  clear ha hr
  go_enter Tryd.func40, Tryd.ntmps40
  go_wp2
  go_loopw [3, 4] (fun v i wr => ∃ (k : Nat) (qs : Lz), k ≤ L.length ∧ i = .int .i64 (k : Int) ∧ Hid (Fits qs (L.take k) 0) ∧ Hid (qs.length = k) ∧ Hid (Pz wr w.heap.size v qs) ∧ Hid (Below w.heap.size w wr)) (fun _ i _ => L.length - (intOf i).toNat)
  case atStart => exact ⟨0, [], Nat.zero_le _, rfl, hid0 rfl, hid0 rfl, hid0 (Pz.nil _ _), hid0 (Below.refl _ _)⟩
  case round =>
    obtain ⟨wo, hwo⟩ : ∃ wo, wo = wr := ⟨_, rfl⟩
    subst hwo
    obtain ⟨k, qs, hk, rfl, HF, HK, HP, HB⟩ := hrel
    have hbs := HB.out.size
    by_cases hlt : k < L.length
    · obtain ⟨b, off, rfl, _, a1, c1, d1, i1, n1⟩ := (HA.out.past HB.out).at' k hlt
      have hkI : (k : Int) < (L.length : Int) := by omega
      have hkI0 : (0 : Int) ≤ (k : Int) := by omega
      have HTK : Hid (L.take (k + 1) = L.take k ++ [L[k]]) := hid0 (by rw [List.take_add_one, List.getElem?_eq_getElem hlt]; rfl)
      have hsl := HR.out _ (List.getElem_mem hlt)
      have HI1 := hid0 i1
      have HN1 := hid0 n1
      have HD1 : Hid (∀ V : World, Below wo.heap.size wo V → V.cell? ⟨b, off + k, none⟩ = some (.slice a1 (L[k]).length c1)) := hid0 (fun V hV => (hV.cell (p := ⟨b, off + k, none⟩) (World.block_lt_of_cell? _ _ d1)).trans d1)
      clear i1 n1
      generalize L[k] = s at *
      have HOO : Hid (wo.ownsRow w.heap.size 25 1 u3 k (qs.map (·.1))) := hid0 (by have h := HP.out.outer; rw [HK.out] at h; exact h)
      go_wp2_with (at_builtin; refine wpList_spreadI rfl _ _ rfl a1 s c1 wo.heap.size rfl rfl HN1.out HI1.out (by omega) (Nat.le_refl _) ?_; intro v1 w1 hown1 hgrow1; have HO1 := hid0 hown1; have HB1 := hid0 ((Below.refl wo.heap.size wo).grown hgrow1 (Nat.le_refl _) (fun k hk => by cases hk)); clear hown1 hgrow1)
      go_loopw [5, 6] (fun v i wr => ∃ m : Nat, m ≤ 64 ∧ i = .int .i64 (m : Int) ∧ Hid (OwnI wr wo.heap.size v (s ++ List.replicate m (-77))) ∧ Hid (Below wo.heap.size wo wr)) (fun _ i _ => 64 - (intOf i).toNat)
      case atStart => exact ⟨0, Nat.zero_le _, rfl, hid0 (by rw [List.replicate_zero, List.append_nil]; exact HO1.out), HB1⟩
      case round =>
        obtain ⟨m, hm, rfl, HO2, HB2⟩ := hrel
        have hs2 := HB2.out.size
        by_cases hm64 : m < 64
        · have hmI : (m : Int) < 64 := by omega
          have HE : Hid (s ++ List.replicate (m + 1) (-77) = (s ++ List.replicate m (-77)) ++ [(-77 : Int)]) := hid0 (by rw [List.replicate_succ', List.append_assoc])
          have hxl : (s ++ List.replicate m (-77 : Int)).length ≤ 3000000 := by rw [List.length_append, List.length_replicate]; omega
          obtain ⟨av, cv, ev, _⟩ := HO2.out.ia
          subst ev
          generalize (s ++ List.replicate m (-77 : Int)) = X at *
          go_wp2_with (at_builtin; go_loud ((
            refine wpList_append_own_at _ rfl _ _ 25 rfl wo.heap.size 3 j0 (.int .i64 0) 1 8 Tryd.underlying25 hj hy0 hy1 hy2 rfl (by decide) _ X.length (X.map (Value.int .i64)) rfl (World.ownsRow.alloc HO2.out _) ⟨wr.heap.size, 0, none⟩ 1 1 [.int .i64 (-77)] rfl rfl (cell_one_new _ _ _) (by simp [Value.oneCell']) (by unfold maxLen; omega) (by omega) (by simp; omega) ?_
            intro v2 w3 hown2 hgrow2 _ _
            have R := ownI_snoc rfl HO2.out hown2 hgrow2 HB2.out (Nat.le_refl _)
            have HO3 := hid0 R.1
            have HB3 := hid0 R.2
            obtain ⟨av2, cv2, ev2, _⟩ := R.1.ia
            rw [List.length_append, List.length_singleton] at ev2
            subst ev2
            clear R hown2 hgrow2)))
          go_roundw
          case rel => exact ⟨m + 1, by omega, by go_num, hid0 (by rw [HE.out]; exact HO3.out), HB3⟩
          case measure => simp [intOf]; omega
        · have hmI : ¬ (m : Int) < 64 := by omega
          obtain rfl : m = 64 := by omega
          have hO4 : OwnI wr wo.heap.size u5 (s ++ m77) := HO2.out
          have hl77 : (s ++ m77).length = s.length + 64 := by rw [List.length_append]; simp [m77]
          obtain ⟨g, c, e5, hg1, hg2, hg3⟩ := own_form hO4 (by omega)
          subst e5
          have HO4 := hid0 hO4
          have d2 := HD1.out wr HB2.out
          rw [hl77] at hg3
          have HL77 := hid0 hl77
          have hcapI : (s.length : Int) ≤ (c : Int) := by omega
          clear hO4 HO2
          rw [hl77]
          clear hl77
          go_wp2_with (at_builtin; go_loud ((
            refine wpList_append_own_at _ rfl _ _ 22 rfl w.heap.size 25 i0 (.slice none 0 0) 1 24 Tryd.underlying22 hi hz0 hz1 hz2 rfl (by decide) _ k (qs.map (·.1)) rfl (World.ownsRow.alloc (row_later HOO.out HB2.out) _) ⟨wr.heap.size, 0, none⟩ 1 1 [.slice (some ⟨g, 0, none⟩) s.length c] rfl rfl (cell_one_new _ _ _) (by simp [Value.oneCell']) (by unfold maxLen; omega) (by omega) (by simp; omega) ?_
            intro v2 w3 hown2 hgrow2 _ _
            have R := Pz.snoc HK.out.symm HP.out HB2.out (by have := HL77.out; omega) HO4.out hbs hown2 hgrow2 HB.out
            have HP3 := hid0 R.1
            have HB3 := hid0 R.2
            clear R hown2 hgrow2)))
          have HF3 : Hid (Fits (qs ++ [(Value.slice (some ⟨g, 0, none⟩) s.length c, s.length, s ++ m77)]) (L.take (k + 1)) 0) := hid0 (by rw [HTK.out]; exact HF.out.snoc)
          have HK3 : Hid ((qs ++ [(Value.slice (some ⟨g, 0, none⟩) s.length c, s.length, s ++ m77)]).length = k + 1) := hid0 (by rw [List.length_append, HK.out]; rfl)
          clear HP HB HF HK HOO HTK
          go_roundw
          case rel => exact ⟨k + 1, _, by omega, by go_num, HF3, HK3, HP3, HB3⟩
          case measure => simp [intOf]; omega
    · have hkI : ¬ (k : Int) < (L.length : Int) := by omega
      have HF2 : Hid (Fits qs L 0) := hid0 (by have h := HF.out; rw [List.take_of_length_le (by omega)] at h; exact h)
      have hkL : k = L.length := by omega
      have HKL := hid0 hkL
      clear HF hkL
      go_wp2
      go_loopw [3, 7] (fun v i wr => ∃ (m : Nat) (qs : Lz), m ≤ 64 ∧ i = .int .i64 (m : Int) ∧ Hid (Fits qs L m) ∧ Hid (Pz wr w.heap.size v qs) ∧ Hid (Below w.heap.size w wr)) (fun _ i _ => 64 - (intOf i).toNat)
      case atStart => exact ⟨0, qs, Nat.zero_le _, rfl, HF2, HP, HB⟩
      case round =>
        clear HF2 HP HB HK
        obtain ⟨m, qs, hm, rfl, HF, HP, HB⟩ := hrel
        have hbs := HB.out.size
        have hql := HF.out.len
        by_cases hm64 : m < 64
        · have hmI : (m : Int) < 64 := by omega
          obtain ⟨w5, hw5⟩ : ∃ w5, w5 = wr.alloc (.cells #[.int .i64 (-78)] 3) := ⟨_, rfl⟩
          have hb5 : Below wr.heap.size wr w5 := by rw [hw5]; exact (Below.refl _ _).alloc (Nat.le_refl _) _
          have HO5 : Hid (OwnI w5 wr.heap.size (.slice (some ⟨wr.heap.size, 0, none⟩) 1 1) [-78]) := hid0 (by rw [hw5]; exact ⟨rfl, .inr ⟨wr.heap.size, 1, _, rfl, Nat.le_refl _, heap_alloc_new wr _, Nat.le_refl _, by decide, rfl, rfl⟩⟩)
          have HB5 := hid0 hb5
          have hs5 := hb5.size
          have hf5 := hw5.symm
          have HQL := hid0 hql
          clear hw5 hb5
          obtain ⟨n, hn⟩ : ∃ n, n = qs.length := ⟨_, rfl⟩
          have hnb : n ≤ 3000000 := by omega
          have HN := hid0 hn
          have HOO : Hid (w5.ownsRow w.heap.size 25 1 u3 n (qs.map (·.1))) := hid0 (by rw [hn]; exact row_later HP.out.outer HB5.out)
          clear hql hn
          go_wp2_with (at_builtin; go_loud ((
            refine wpList_append_own_at _ rfl _ _ 22 rfl w.heap.size 25 i0 (.slice none 0 0) 1 24 Tryd.underlying22 hi hz0 hz1 hz2 rfl (by decide) _ n (qs.map (·.1)) rfl (World.ownsRow.alloc HOO.out _) ⟨w5.heap.size, 0, none⟩ 1 1 [.slice (some ⟨wr.heap.size, 0, none⟩) 1 1] rfl rfl (cell_one_new _ _ _) (by simp [Value.oneCell']) (by unfold maxLen; omega) (by omega) (by simp; omega) ?_
            intro v2 w6 hown2 hgrow2 _ _
            have R := Pz.snoc (r := [-78]) (m := 1) HN.out HP.out HB5.out (Nat.le_refl _) HO5.out hbs hown2 hgrow2 HB.out
            have HP3 := hid0 R.1
            have HB3 := hid0 R.2
            clear R hown2 hgrow2)))
          go_roundw
          case rel => exact ⟨m + 1, _, by omega, by go_num, hid0 HF.out.more, HP3, HB3⟩
          case measure => simp [intOf]; omega
        · have hmI : ¬ (m : Int) < 64 := by omega
          obtain rfl : m = 64 := by omega
          obtain ⟨G, c, e3, hg1, hg2, hg3⟩ := own_form HP.out.outer (by omega)
          rw [hql] at hg3 e3
          subst e3
          have HTz : Hid (Tz wr w.heap.size G c L) := hid0 ⟨qs, HP.out, HF.out⟩
          have hcapI : (L.length : Int) ≤ (c : Int) := by omega
          clear hql
          go_wp2
          go_ret
          exact ⟨G, c, rfl, HTz.out, HB.out⟩
end Go.Proofs.YtjemjccgfgijiaaDoor
