/-
  MbKW.
-/
import Derived.Test.YtbbejfkgopcjoaaDoorNeai
namespace Go.Proofs.YtbbejfkgopcjoaaDoor
open Go.RowKit Go.Shelf
attribute [local go_sem] Oper.semAt_some
/-- What was there, and what follows places. -/
def accF (h : Nat → Bool) (FO : List (List (Nat × Nat))) (lst : List Nat) : Nat → Bool := fun q => h q || lst.any fun p => inR (FO.getD p []) q
theorem accF_nil (h : Nat → Bool) (FO : List (List (Nat × Nat))) : accF h FO [] = h := by funext q; simp [accF]
theorem accF_snoc (h : Nat → Bool) (FO : List (List (Nat × Nat))) (lst : List Nat) (p : Nat) : accF h FO (lst ++ [p]) = fun q => accF h FO lst q || inR (FO.getD p []) q := by
  funext q
  simp [accF, Bool.or_assoc]
/-- What follows' loops keep. -/
structure FoI (w : World) (J G N cR lo : Nat) (R : Nat → Bool) (W : World) : Prop where
  only : Only w W (fun k => k = G)
  sz : w.heap.size + 3 ≤ W.heap.size
  b0 : W.heap[w.heap.size]? = some (.cells #[.pointer (some ⟨J, 0, none⟩)] 64 (0, 0))
  b1 : W.heap[w.heap.size + 1]? = some (.cells #[.slice (some ⟨G, 0, none⟩) N cR] 83 (0, 0))
  ru : OwnU W lo (.slice (some ⟨G, 0, none⟩) N cR) N R
theorem FoI.keep {w A B : World} {J G N cR lo : Nat} {R : Nat → Bool} (h : FoI w J G N cR lo R A) (hG : G < w.heap.size) (ho : Only A B (fun k => k = w.heap.size + 2 ∨ (w.heap.size + 3 ≤ k ∧ ∃ o, A.heap[k]? = some o ∧ o.isCells = false))) : FoI w J G N cR lo R B := by
  have hs := h.sz
  refine ⟨⟨ho.os.trans h.only.os, ho.tape.trans h.only.tape, ho.output.trans h.only.output, Nat.le_trans h.only.size ho.size, fun k hk hn => (ho.block k (by omega) (by omega)).trans (h.only.block k hk hn)⟩, Nat.le_trans hs ho.size, (ho.block _ (by omega) (by omega)).trans h.b0, (ho.block _ (by omega) (by omega)).trans h.b1, own_blk h.ru (fun k hk => ?_)⟩
  obtain rfl : G = k := by simpa [Value.ownBlock] using hk
  exact ho.block _ (by omega) (by omega)
theorem FoI.new {w A B : World} {J G N cR lo : Nat} {R : Nat → Bool} (h : FoI w J G N cR lo R A) (hG : G < w.heap.size) (hb : Below A.heap.size A B) : FoI w J G N cR lo R B := h.keep hG (Only.ofNew hb _)
/-- A word of what is reached is written. -/
theorem FoI.put {w V : World} {J G N cR lo a x : Nat} {R : Nat → Bool} (h : FoI w J G N cR lo R V) (hG : G < w.heap.size) (ha : a < N) :
    FoI w J G N cR lo (fun q => R q || (decide (a = q / 64) && x.testBit (q % 64))) (V.setCell ⟨G, a, none⟩ (.int .u64 (wordOf (fun q => R q || (decide (a = q / 64) && x.testBit (q % 64))) a : Int))) ∧ KpT V (V.setCell ⟨G, a, none⟩ (.int .u64 (wordOf (fun q => R q || (decide (a = q / 64) && x.testBit (q % 64))) a : Int))) := by
  have hs := h.sz
  have ho := Only.setCell V G a (.int .u64 (wordOf (fun q => R q || (decide (a = q / 64) && x.testBit (q % 64))) a : Int))
  refine ⟨⟨h.only.trans ho (fun i hi => .inl hi), Nat.le_trans hs ho.size, (ho.block _ (by omega) (by omega)).trans h.b0, (ho.block _ (by omega) (by omega)).trans h.b1, h.ru.orx ha⟩, ⟨ho.size, fun k o hk hkt => ?_⟩⟩
  refine (ho.block k (Array.getElem?_eq_some_iff.1 hk).1 (fun e => ?_)).trans hk
  obtain ⟨cs, hcs⟩ := own_typ h.ru (show Value.ownBlock _ = some G from rfl)
  rw [e, hcs] at hk
  cases hk
  cases hkt
def FoK (w : World) (J G N cR lo : Nat) (h f : Nat → Bool) (FO : List (List (Nat × Nat))) (pre : List Nat) (W : World) : Prop := FoI w J G N cR lo (accF h FO (pre.flatMap (pw f))) W
def FoJ (w : World) (J G N cR lo : Nat) (h : Nat → Bool) (FO : List (List (Nat × Nat))) (P0 : List Nat) (k0 : Nat) (lst : List Nat) (W : World) : Prop := FoI w J G N cR lo (accF h FO (P0 ++ lst.drop k0)) W ∧ k0 ≤ lst.length
set_option maxRecDepth 100000 in
set_option maxHeartbeats 2000000 in
theorem follows_any (J G N cR lo : Nat) (f h : Nat → Bool) (FO : List (List (Nat × Nat))) (vF vE : Value) (w : World) (hN : N ≤ 1000000) (hR : OwnU w lo (.slice (some ⟨G, 0, none⟩) N cR) N h)
    (hrd : ∀ V : World, Only w V (fun k => k = G) → V.cell? ⟨J, 2, none⟩ = some vF ∧ V.cell? ⟨J, 3, none⟩ = some vE ∧ RwW V vF vE FO ∧ TabAt 11 Lib.deBruijn64tab V) (hfo : ∀ r ∈ FO, ∀ x ∈ r, x.1 < N ∧ x.2 < 18446744073709551616) (hff : ∀ q, f q = true → q < FO.length) (hl1 : FO.flatten.length ≤ 1000000000) (hl2 : FO.length ≤ 1000000000) :
    Calls Tryd.prog 74 #[.pointer (some ⟨J, 0, none⟩), .slice (some ⟨G, 0, none⟩) N cR, .string ⟨(encW f N).toArray⟩] w fun e w' => (∃ v, e = .returned v) ∧ OwnU w' lo (.slice (some ⟨G, 0, none⟩) N cR) N (accF h FO (plB f (64 * N))) ∧ Only w w' (fun k => k = G) := by
  have hG : G < w.heap.size := (World.ownsRow.lt hR G rfl).2
  obtain ⟨w1, hw1⟩ : ∃ w1, w1 = (w.alloc (.cells #[.pointer (some ⟨J, 0, none⟩)] 64)).alloc (.cells #[.slice (some ⟨G, 0, none⟩) N cR] 83) := ⟨_, rfl⟩
  obtain ⟨w2, hw2⟩ : ∃ w2, w2 = w1.alloc (.cells #[.string ⟨(encW f N).toArray⟩] 9) := ⟨_, rfl⟩
  have hs1 : w1.heap.size = w.heap.size + 2 := by rw [hw1]; simp
  have hs2 : w2.heap.size = w.heap.size + 3 := by rw [hw2]; simp [hs1]
  have hb2 : Below w.heap.size w w2 := by rw [hw2, hw1]; exact (((Below.refl _ w).alloc (Nat.le_refl _) _).alloc (by simp) _).alloc (by simp; omega) _
  have hE0 : FoK w J G N cR lo h f FO [] w2 := by
    unfold FoK
    rw [List.flatMap_nil, accF_nil]
    refine ⟨Only.ofNew hb2 _, by omega, ?_, ?_, hR.past hb2⟩
    · rw [hw2, hw1, Below.heap_alloc _ _ _ (by simp; omega), Below.heap_alloc _ _ _ (by simp)]; exact heap_alloc_new w _
    · rw [hw2, Below.heap_alloc _ _ _ (by rw [hs1]; omega), hw1]
      have := heap_alloc_new (w.alloc (.cells #[.pointer (some ⟨J, 0, none⟩)] 64)) (.cells #[.slice (some ⟨G, 0, none⟩) N cR] 83)
      simpa using this
  have HTx : Hid (w2.heap[w.heap.size + 2]? = some (.cells #[.string ⟨(encW f N).toArray⟩] 9 (0, 0))) := hid0 (by rw [hw2, ← hs1]; exact heap_alloc_new w1 _)
  have HE0 := hid0 hE0
  have HWd : Hid (Calls Tryd.prog 67 #[.string ⟨(encW f N).toArray⟩] w1 fun e w' => e = .returned (.func (.func 88) #[] #[.pointer (some ⟨w.heap.size + 2, 0, none⟩)]) ∧ w' = w2) := hid0 (by rw [hw2, ← hs1]; exact wordsIn_any _ w1)
  have HRd := hid0 hrd
  have HFo := hid0 hfo
  have HFf := hid0 hff
  have HS2 := hid0 hs2
  have HG := hid0 hG
  generalize htx : (⟨(encW f N).toArray⟩ : ByteArray) = txt at *
  have HTe := hid0 htx
  have hfold := hw1.symm
  clear htx hR hrd hfo hff hE0 hb2 hw1 hw2 hs1 hs2 hG
  refine (callsIn_wide (n := 8)).1 (callsIn_of_wp_marks Tryd.func74 rfl trivial ?_ rfl)
  simp only [Tryd.ntmps74, List.size_toArray, List.length_cons, List.length_nil, Nat.reduceAdd, Nat.reduceSub, Array.replicate_succ, Array.replicate_zero, List.push_toArray, List.append_toArray, List.nil_append, List.cons_append]
  gi_wp2_with (refine ⟨trivial, ?_⟩; gi_at_call 67; refine (callsIn_wide.2 HWd.out).mono ?_; rintro e w3 ⟨rfl, hw3⟩; have HW3 := hid0 hw3; clear hw3)
  have HS3 : Hid (w3.heap.size = w.heap.size + 3) := hid0 (by rw [HW3.out]; exact HS2.out)
  refine wpIn_rangeWords 6 8 (by omega) (w.heap.size + 2) N f hN rfl (by rw [HW3.out, HTe.out]; exact HTx.out) (FoK w J G N cR lo h f FO) (fun pre A B h ho => FoI.keep h HG.out (by rw [HS3.out] at ho; exact ho)) (by rw [HW3.out]; exact HE0.out) ?assign ?body ?done
  case assign =>
    intro l x W K hK
    simp only [actV, List.setIfInBounds_toArray, List.set_cons_succ, List.set_cons_zero] at hK ⊢
    gi_wp2
    exact hK
  case body =>
    intro l pre x bx r W hJ hx hw0 hpre hl hbx hlr hbxr
    simp only [actV, List.setIfInBounds_toArray, List.set_cons_succ, List.set_cons_zero]
    unfold FoK at hJ
    have e0 : W.cell? ⟨bx, 0, none⟩ = some (.int .i64 (x : Int)) := by rw [cell_of_row _ _ _ _ _ _ hbxr]; rfl
    have e1 : W.cell? ⟨bx, 1, none⟩ = some (.int .u64 (wordOf f x : Int)) := by rw [cell_of_row _ _ _ _ _ _ hbxr]; rfl
    obtain ⟨k0, hk0⟩ : ∃ k0, k0 = (plB f (64 * x)).length := ⟨_, rfl⟩
    obtain ⟨P0, hP0⟩ : ∃ P0, P0 = pre.flatMap (pw f) := ⟨_, rfl⟩
    have HK0 := hid0 (And.intro hk0 hP0)
    have HJ := hid0 hJ
    have HL4 := hid0 hlr
    clear hk0 hP0 hJ hlr hbxr hpre
    gi_wp2
    refine wpIn_rangeW 7 6 (by omega) HL4.out x f (by omega) rfl (FoJ w J G N cR lo h FO P0 k0) ?keepI (fun lst A h => (HRd.out A h.1.only).2.2.2) ?startI ?assignI ?bodyI ?doneI
    case keepI =>
      rintro lst A B ⟨h1, h2⟩ ho
      exact ⟨h1.keep HG.out ⟨ho.os, ho.tape, ho.output, ho.size, fun k hk hn => ho.block k hk (fun ⟨q1, q2⟩ => hn (.inr ⟨by have := HJ.out.sz; omega, q2⟩))⟩, h2⟩
    case startI =>
      refine ⟨?_, by rw [HK0.out.1]; exact Nat.le_refl _⟩
      rw [List.drop_of_length_le (by rw [HK0.out.1]; exact Nat.le_refl _), List.append_nil, HK0.out.2]
      exact HJ.out
    case assignI =>
      intro l x W K hK
      simp only [actE, List.setIfInBounds_toArray, List.set_cons_succ, List.set_cons_zero] at hK ⊢
      gi_wp2
      exact hK
    case bodyI =>
      intro l2 lst q V hJq h1 h2 hfq hlq
      simp only [actE, List.setIfInBounds_toArray, List.set_cons_succ, List.set_cons_zero]
      obtain ⟨hEq, hkl⟩ := hJq
      have hq := HFf.out q hfq
      obtain ⟨Rr, hRr⟩ : ∃ Rr, FO[q]? = some Rr := ⟨_, List.getElem?_eq_getElem hq⟩
      have HRm : Hid (∀ x ∈ Rr, x.1 < N ∧ x.2 < 18446744073709551616) := hid0 (HFo.out Rr (List.mem_of_getElem? hRr))
      obtain ⟨R0, hR0⟩ : ∃ R0, R0 = accF h FO (P0 ++ lst.drop k0) := ⟨_, rfl⟩
      have HNx : Hid (accF h FO (P0 ++ (lst ++ [q]).drop k0) = fun y => R0 y || inR Rr y) := hid0 (by
        rw [List.drop_append_of_le_length hkl, ← List.append_assoc, accF_snoc, ← hR0, List.getD_eq_getElem?_getD, hRr, Option.getD_some])
      rw [← hR0] at hEq
      obtain ⟨c2, c3, hrw, _⟩ := HRd.out V hEq.only
      have HOf := hid0 (ofW_any J 2 q FO vF vE V c2 c3 hrw Rr hRr hl1 hl2)
      have d0 : V.cell? ⟨w.heap.size, 0, none⟩ = some (.pointer (some ⟨J, 0, none⟩)) := by rw [cell_of_row _ _ _ _ _ _ hEq.b0]; rfl
      have HEq := hid0 hEq
      have HKl := hid0 hkl
      have HRl : Hid (Rr.length ≤ 1000000000) := hid0 (by
        have h1 : FO[q] = Rr := (List.getElem?_eq_some_iff.1 hRr).2
        have h2 := sum_take FO hq
        have h3 := sum_le FO (q + 1)
        have h4 := flat_len FO
        rw [h1] at h2
        omega)
      have hrl := HRl.out
      clear hEq hkl hRr hR0 hrw hlq h1 h2 hfq hq e0 e1
      have hff1 : Fence.wide.fn 91 := trivial
      gi_wp2_with (gi_at_call 91; go_loud ((refine (CallsIn.inRound l2 (callsIn_wide.2 HOf.out)).mono ?_; rintro e V1 ⟨av, cv, rfl, hwd, hbv, _⟩; have HWv := hid0 hwd; have HBv := hid0 hbv; clear hwd hbv)))
      have HEq1 := hid0 (HEq.out.new HG.out HBv.out)
      have HK1 := hid0 (KpT.below HBv.out)
      gi_loopw [22] (fun i wr => ∃ k : Nat, k ≤ Rr.length ∧ i = .int .i64 (k : Int) ∧ Hid (FoI w J G N cR lo (fun y => R0 y || inR (Rr.take k) y) wr) ∧ Hid (KpT V wr)) (fun i _ => Rr.length - (intOf i).toNat)
      case atStart => exact ⟨0, Nat.zero_le _, rfl, hid0 (by have h := HEq1.out; simpa [inR] using h), HK1⟩
      case round =>
        obtain ⟨k, hk, rfl, HF, HKk⟩ := hrel
        clear d0
        by_cases hkr : k < Rr.length
        · obtain ⟨b, off, eb, _, y0, y1⟩ := (HWv.out wr (HRd.out wr HF.out.only).2.2.1).at' k hkr
          subst eb
          obtain ⟨ha, hx64⟩ := HRm.out (Rr[k]) (List.getElem_mem hkr)
          obtain ⟨R1, hR1⟩ : ∃ R1 : Nat → Bool, R1 = fun y => R0 y || inR (Rr.take k) y := ⟨_, rfl⟩
          have HF1 : Hid (FoI w J G N cR lo R1 wr) := hid0 (by rw [hR1]; exact HF.out)
          have hSn : (fun y => R0 y || inR (Rr.take (k + 1)) y) = fun y => R1 y || (decide ((Rr[k]).1 = y / 64) && (Rr[k]).2.testBit (y % 64)) := by
            funext y
            rw [hR1, List.take_add_one, List.getElem?_eq_getElem hkr, Option.toList_some, inR_snoc, Bool.or_assoc]
          generalize (Rr[k]).1 = ra at *
          generalize (Rr[k]).2 = rx at *
          obtain ⟨R2, hR2⟩ : ∃ R2 : Nat → Bool, R2 = fun y => R1 y || (decide (ra = y / 64) && rx.testBit (y % 64)) := ⟨_, rfl⟩
          rw [← hR2] at hSn
          have HSn := hid0 hSn
          clear hSn
          obtain ⟨wA, hwA⟩ : ∃ wA, wA = wr.alloc (.cells #[.int .i64 (ra : Int), .int .u64 (rx : Int)] 130) := ⟨_, rfl⟩
          have hbA : Below wr.heap.size wr wA := by rw [hwA]; exact (Below.refl _ _).alloc (Nat.le_refl _) _
          have hrA : wA.heap[wr.heap.size]? = some (.cells #[.int .i64 (ra : Int), .int .u64 (rx : Int)] 130 (0, 0)) := by rw [hwA]; exact heap_alloc_new wr _
          have hFA := HF1.out.new HG.out hbA
          have d5 : wA.cell? ⟨w.heap.size + 1, 0, none⟩ = some (.slice (some ⟨G, 0, none⟩) N cR) := by rw [cell_of_row _ _ _ _ _ _ hFA.b1]; rfl
          have d8 : wA.cell? ⟨wr.heap.size, 0, none⟩ = some (.int .i64 (ra : Int)) := by rw [cell_of_row _ _ _ _ _ _ hrA]; rfl
          have d9 : wA.cell? ⟨wr.heap.size, 1, none⟩ = some (.int .u64 (rx : Int)) := by rw [cell_of_row _ _ _ _ _ _ hrA]; rfl
          obtain ⟨g', c', e', _, _, dG, fG⟩ := hFA.ru.at' ha
          cases e'
          have hor : bits .or .u64 (wordOf R1 ra : Int) (rx : Int) = (wordOf R2 ra : Int) := by rw [bits_or_u64_nat _ _ (by have := wordOf_lt R1 ra; omega) hx64, word_orx R1 ra rx hx64, ← hR2]
          have hP := hFA.put (x := rx) HG.out ha
          rw [← hR2] at hP
          have HP := hid0 hP
          have HKA := hid0 (HKk.out.trans (KpT.below hbA))
          have hGs : G < wr.heap.size := by have := HG.out; have := HF1.out.sz; omega
          have HS8 : Hid ((wA.drew.setCell ⟨G, ra, none⟩ (.int .u64 (wordOf R2 ra : Int))).cell? ⟨w.heap.size + 1, 0, none⟩ = some (.slice (some ⟨G, 0, none⟩) N cR) ∧ (wA.drew.setCell ⟨G, ra, none⟩ (.int .u64 (wordOf R2 ra : Int))).cell? ⟨wr.heap.size, 0, none⟩ = some (.int .i64 (ra : Int)) ∧ (wA.drew.setCell ⟨G, ra, none⟩ (.int .u64 (wordOf R2 ra : Int))).cell? ⟨wr.heap.size, 1, none⟩ = some (.int .u64 (rx : Int))) := hid0 (by
            have ho := Only.setCell wA.drew G ra (.int .u64 (wordOf R2 ra : Int))
            have hG := HG.out
            exact ⟨(ho.cell (p := ⟨w.heap.size + 1, 0, none⟩) (World.block_lt_of_cell? wA _ d5) (by show ¬ (w.heap.size + 1 = G); omega)).trans d5, (ho.cell (p := ⟨wr.heap.size, 0, none⟩) (World.block_lt_of_cell? wA _ d8) (by show ¬ (wr.heap.size = G); omega)).trans d8, (ho.cell (p := ⟨wr.heap.size, 1, none⟩) (World.block_lt_of_cell? wA _ d9) (by show ¬ (wr.heap.size = G); omega)).trans d9⟩)
          have haI : (ra : Int) < (N : Int) := by omega
          have haI0 : (0 : Int) ≤ (ra : Int) := by omega
          have hkI : (k : Int) < (Rr.length : Int) := by omega
          have hkI0 : (0 : Int) ≤ (k : Int) := by omega
          have hfold := hwA.symm
          clear hwA hbA hrA hFA hP HF HF1 hR1 hR2 hx64
          gi_wp2
          clear hfold y0 y1
          refine wpIn_region_round (S := (fun V => V.cell? ⟨w.heap.size + 1, 0, none⟩ = some (.slice (some ⟨G, 0, none⟩) N cR) ∧ V.cell? ⟨wr.heap.size, 0, none⟩ = some (.int .i64 (ra : Int)) ∧ V.cell? ⟨wr.heap.size, 1, none⟩ = some (.int .u64 (rx : Int)))) (by kernel_rfl) (by kernel_rfl) ?_ (fun hHeld => ?_)
          · exact ⟨d5, d8, d9⟩
          refine tkV (i := 0) (d := some 26) (v := ?_) rfl (by kernel_rfl) (by kernel_rfl) (by kernel_rfl) rfl (fun _ _ _ h => h) (by rfl) ?_ (by assumption) ?_
          rotate_left
          · (intro w hSw; (try dsimp only at hSw); (try simp only [List.getElem_toArray, List.getElem_cons_zero]); go_simp; try with_reducible rfl)
          try simp only [Act.put, List.setIfInBounds_toArray, List.set_cons_zero, List.set_cons_succ]
          refine tkV (i := 1) (d := some 27) (v := ?_) rfl (by kernel_rfl) (by kernel_rfl) (by kernel_rfl) rfl (fun _ _ _ h => h) (by rfl) ?_ (by assumption) ?_
          rotate_left
          · (intro w hSw; (try dsimp only at hSw); (try simp only [List.getElem_toArray, List.getElem_cons_zero, List.getElem_cons_succ]); go_simp; try with_reducible rfl)
          try simp only [Act.put, List.setIfInBounds_toArray, List.set_cons_zero, List.set_cons_succ]
          refine tkV (i := 2) (d := some 28) (v := ?_) rfl (by kernel_rfl) (by kernel_rfl) (by kernel_rfl) rfl (fun _ _ _ h => h) (by rfl) ?_ (by assumption) ?_
          rotate_left
          · (intro w hSw; (try dsimp only at hSw); (try simp only [List.getElem_toArray, List.getElem_cons_zero, List.getElem_cons_succ]); go_simp; try with_reducible rfl)
          try simp only [Act.put, List.setIfInBounds_toArray, List.set_cons_zero, List.set_cons_succ]
          refine tkV (i := 3) (d := some 29) (v := ?_) rfl (by kernel_rfl) (by kernel_rfl) (by kernel_rfl) rfl (fun _ _ _ h => h) (by rfl) ?_ (by assumption) ?_
          rotate_left
          · (intro w hSw; (try dsimp only at hSw); (try simp only [List.getElem_toArray, List.getElem_cons_zero, List.getElem_cons_succ]); go_simp; try with_reducible rfl)
          try simp only [Act.put, List.setIfInBounds_toArray, List.set_cons_zero, List.set_cons_succ]
          refine tkV (i := 5) (d := some 31) (v := ?_) rfl (by kernel_rfl) (by kernel_rfl) (by kernel_rfl) rfl (fun _ _ _ h => h) (by rfl) ?_ (by assumption) ?_
          rotate_left
          · (intro w hSw; (try dsimp only at hSw); (try simp only [List.getElem_toArray, List.getElem_cons_zero, List.getElem_cons_succ]); go_simp; try with_reducible rfl)
          try simp only [Act.put, List.setIfInBounds_toArray, List.set_cons_zero, List.set_cons_succ]
          refine tkV (i := 6) (d := some 32) (v := ?_) rfl (by kernel_rfl) (by kernel_rfl) (by kernel_rfl) rfl (fun _ _ _ h => h) (by rfl) ?_ (by assumption) ?_
          rotate_left
          · (intro w hSw; (try dsimp only at hSw); (try simp only [List.getElem_toArray, List.getElem_cons_zero, List.getElem_cons_succ]); go_simp; try with_reducible rfl)
          try simp only [Act.put, List.setIfInBounds_toArray, List.set_cons_zero, List.set_cons_succ]
          refine wpAnyH_ready (rs := [4]) (by kernel_rfl) (by simp) (AllReadyH.cons rfl (fun K hK => ?_) AllReadyH.nil)
          try simp only [List.getElem_toArray, List.getElem_cons_zero, List.getElem_cons_succ]
          go_simp
          refine hK.out _ _ ?_ (fun hHeld4 => ?_)
          · exact ⟨d5, d8, d9⟩
          clear hK K
          (try simp only [Act.put]); (try simp only [List.setIfInBounds_toArray]); (try simp only [List.set_cons_succ]); (try simp only [List.set_cons_zero])
          refine tkV (i := 7) (d := some 33) (v := ?_) rfl (by kernel_rfl) (by kernel_rfl) (by kernel_rfl) rfl (fun _ _ _ h => h) (by rfl) ?_ (by assumption) ?_
          rotate_left
          · (intro w hSw; (try dsimp only at hSw); (try simp only [List.getElem_toArray, List.getElem_cons_zero, List.getElem_cons_succ]); go_simp; try with_reducible rfl)
          try simp only [Act.put, List.setIfInBounds_toArray, List.set_cons_zero, List.set_cons_succ]
          refine tkV (i := 8) (d := some 34) (v := ?_) rfl (by kernel_rfl) (by kernel_rfl) (by kernel_rfl) rfl (fun _ _ _ h => h) (by rfl) ?_ (by assumption) ?_
          rotate_left
          · (intro w hSw; (try dsimp only at hSw); (try simp only [List.getElem_toArray, List.getElem_cons_zero, List.getElem_cons_succ]); go_simp; try with_reducible rfl)
          try simp only [Act.put, List.setIfInBounds_toArray, List.set_cons_zero, List.set_cons_succ]
          refine wpAnyH_ready (rs := [9]) (by kernel_rfl) (by simp) (AllReadyH.cons rfl (fun K hK => ?_) AllReadyH.nil)
          try simp only [List.getElem_toArray, List.getElem_cons_zero, List.getElem_cons_succ]
          go_simp
          refine hK.out _ _ ?_ (fun hHeld9 => ?_)
          · exact HS8.out
          clear hK K
          (try simp only [Act.put]); (try simp only [List.setIfInBounds_toArray]); (try simp only [List.set_cons_succ]); (try simp only [List.set_cons_zero])
          refine wpAnyH_done (by kernel_rfl) ?_ _
          refine NormO.normal ?_
          have HF2 : Hid (FoI w J G N cR lo (fun y => R0 y || inR (Rr.take (k + 1)) y) (wA.setCell ⟨G, ra, none⟩ (.int .u64 (wordOf R2 ra : Int))).drew) := hid0 (by rw [HSn.out]; exact HP.out.1.new HG.out (Below.refl _ _).drew)
          have HK2 : Hid (KpT V (wA.setCell ⟨G, ra, none⟩ (.int .u64 (wordOf R2 ra : Int))).drew) := hid0 ((HKA.out.trans HP.out.2).trans (KpT.below (Below.refl _ _).drew))
          clear d5 d8 d9 dG fG hor HS8
          gi_wp2
          go_roundw
          case rel => exact ⟨k + 1, by omega, by go_num, HF2, HK2⟩
          case measure => simp [intOf]; omega
        · obtain rfl : k = Rr.length := by omega
          have HFe : Hid (FoJ w J G N cR lo h FO P0 k0 (lst ++ [q]) wr) := hid0 ⟨by rw [HNx.out]; have h := HF.out; rw [List.take_length] at h; exact h, by rw [List.length_append]; have := HKl.out; omega⟩
          gi_wp2
          exact ⟨HFe.out, HKk.out⟩
    case doneI =>
      intro V hJ hKV
      have HD : Hid (FoK w J G N cR lo h f FO (pre ++ [x]) V) := hid0 (by
        have h := hJ.1
        unfold FoK
        rw [HK0.out.1, HK0.out.2] at h
        rw [List.flatMap_append]
        simp only [List.flatMap_cons, List.flatMap_nil, List.append_nil]
        exact h)
      have HKB := hid0 (hKV.b bx)
      clear hJ hKV
      gi_wp2
      exact ⟨HD.out, HKB.out⟩
  case done =>
    intro W hJ hK
    have hJ : FoI w J G N cR lo (accF h FO (plB f (64 * N))) W := by
      have h : FoK w J G N cR lo h f FO (wl f N) W := hJ
      unfold FoK at h
      rw [pw_wl (fun q hq => hq) N] at h
      exact h
    have hF : OwnU (W.putObj w3.heap.size (.deferred none)) lo (.slice (some ⟨G, 0, none⟩) N cR) N (accF h FO (plB f (64 * N))) ∧ Only w (W.putObj w3.heap.size (.deferred none)) (fun k => k = G) := by
      have h3 := HS3.out
      have hG := HG.out
      refine ⟨own_blk hJ.ru (fun k hk => World.putObj_heap_other (fun e => ?_)), hJ.only.trans (Only.putObj W w3.heap.size _ (fun k => k = w3.heap.size) rfl) (fun i hi => .inr (by omega))⟩
      obtain rfl : G = k := by simpa [Value.ownBlock] using hk
      omega
    have HK := hid0 hK
    have HF := hid0 hF
    clear hJ hK hF
    gi_wp2
    refine ⟨by simp, .inl ⟨_, _, rfl, run_takeDeferred HK.out, ?_⟩⟩
    exact ⟨_, results_none rfl _ _ _, ⟨_, rfl⟩, HF.out.1, HF.out.2⟩
end Go.Proofs.YtbbejfkgopcjoaaDoor
