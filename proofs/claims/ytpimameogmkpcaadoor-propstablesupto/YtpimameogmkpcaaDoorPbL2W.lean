/-
  caesuralaw5.PropsMemory walked.
-/
import Derived.Test.YtpimameogmkpcaaDoorPbL1W
namespace Go.Proofs.YtpimameogmkpcaaDoor
open Go.RowKit Go.Shelf
theorem below_only {w a b : World} {S : Nat → Prop} (h : Below w.heap.size w a) (ho : Only a b S) (hs : ∀ k, S k → w.heap.size ≤ k) : Below w.heap.size w b :=
  ⟨ho.os.trans h.os, ho.tape.trans h.tape, ho.output.trans h.output, Nat.le_trans h.size ho.size, fun k hk => (ho.block k (Nat.lt_of_lt_of_le hk h.size) (fun s => by have := hs k s; omega)).trans (h.block k hk)⟩
theorem below_drewN {w a : World} (h : Below w.heap.size w a) (n : Nat) : Below w.heap.size w (a.drewN n) := ⟨h.os, h.tape, h.output, h.size, h.block⟩
theorem sa3_new (w : World) (a b c : ByteArray) (t : TypeId) : SA (w.alloc (.cells #[.string a, .string b, .string c] t)) (some ⟨w.heap.size, 0, none⟩) [a, b, c] := ⟨fun k hk => by
  refine ⟨w.heap.size, 0, rfl, by simp, ?_⟩
  rw [cell_of_row _ _ _ _ _ _ (heap_alloc_new w _), Nat.zero_add]
  match k, hk with
  | 0, _ => rfl
  | 1, _ => rfl
  | 2, _ => rfl⟩
theorem sa2_new (w : World) (a b : ByteArray) (t : TypeId) : SA (w.alloc (.cells #[.string a, .string b] t)) (some ⟨w.heap.size, 0, none⟩) [a, b] := ⟨fun k hk => by
  refine ⟨w.heap.size, 0, rfl, by simp, ?_⟩
  rw [cell_of_row _ _ _ _ _ _ (heap_alloc_new w _), Nat.zero_add]
  match k, hk with
  | 0, _ => rfl
  | 1, _ => rfl⟩
theorem pa1_new (w : World) (a b c : Int) (t : TypeId) : PA (w.alloc (.cells #[.int .i64 a, .int .i64 b, .int .i64 c] t)) (some ⟨w.heap.size, 0, none⟩) [(a, b, c)] := ⟨fun k hk => by
  refine ⟨w.heap.size, 0, rfl, by simp, ?_⟩
  match k, hk with
  | 0, _ => exact ⟨by rw [cell_of_row _ _ _ _ _ _ (heap_alloc_new w _)]; rfl, by rw [cell_of_row _ _ _ _ _ _ (heap_alloc_new w _)]; rfl, by rw [cell_of_row _ _ _ _ _ _ (heap_alloc_new w _)]; rfl⟩⟩
/-- New of a property whose classes are known, as a literal lays it. -/
theorem new_ab (A : Nat → Addr) (w : World) (he : Sent5 w A) :
    Calls Tryd.prog 7 #[.agg #[.slice (some ⟨w.heap.size, 0, none⟩) 2 2, .slice (some ⟨w.heap.size + 1, 0, none⟩) 1 1]] ((w.alloc (.cells #[.string bA, .string bB] 9)).alloc (.cells #[.int .i64 65, .int .i64 90, .int .i64 1] 38)) fun e w' => ∃ T c vN vB, e = .returned (.tuple #[.pointer (some ⟨T, 0, none⟩), .nilIface]) ∧ TabAt w' (w.heap.size + 2) T [otherB, bA, bB] [(65, 90, 1)] c vN vB ∧ Below w.heap.size w w' := by
  have hs1 : (w.alloc (.cells #[.string bA, .string bB] 9)).heap.size = w.heap.size + 1 := by simp
  have b1 : Below w.heap.size w (w.alloc (.cells #[.string bA, .string bB] 9)) := (Below.refl _ _).alloc (Nat.le_refl _) _
  have b2 : Below (w.alloc (.cells #[.string bA, .string bB] 9)).heap.size (w.alloc (.cells #[.string bA, .string bB] 9)) ((w.alloc (.cells #[.string bA, .string bB] 9)).alloc (.cells #[.int .i64 65, .int .i64 90, .int .i64 1] 38)) := (Below.refl _ _).alloc (Nat.le_refl _) _
  have hp := pa1_new (w.alloc (.cells #[.string bA, .string bB] 9)) 65 90 1 38
  rw [hs1] at hp
  have h := new_any A [bA, bB] [(65, 90, 1)] (some ⟨w.heap.size, 0, none⟩) (some ⟨w.heap.size + 1, 0, none⟩) 2 1 _ (by decide) (by decide) (by decide) (by decide) (fun s hs => by
    rcases List.mem_cons.1 hs with rfl | hs
    · decide
    · rw [List.mem_singleton.1 hs]; decide) ((sa2_new w bA bB 9).below b2) hp (fun p hp => by cases hp; simp) ((he.later b1).later b2)
  refine h.mono (fun e w' hn => ?_)
  have b3 := Below.later b1 b2
  rcases hn with ⟨i, hi, _⟩ | ⟨_, T, c, vN, vB, e1, ht, hb⟩
  · rw [propF_ab] at hi; cases hi
  · have hs2 : ((w.alloc (.cells #[.string bA, .string bB] 9)).alloc (.cells #[.int .i64 65, .int .i64 90, .int .i64 1] 38)).heap.size = w.heap.size + 2 := by simp
    rw [hs2] at ht
    exact ⟨T, c, vN, vB, e1, ht, Below.later b3 hb⟩
set_option maxRecDepth 10000 in
set_option maxHeartbeats 3200000 in
theorem propsMemory_any (A : Nat → Addr) (v0 v1 vS : Value) (aP : Option Addr) (pts : List Int) (capP : Nat) (w : World) (hl : pts.length ≤ 100000000) (ha : IA w aP pts) (he : Sent5 w A) :
    Calls Tryd.prog 4 #[.agg #[v0, v1, .slice aP pts.length capP, vS]] w fun e w' => e = .returned (.bool true) ∧ Below w.heap.size w w' := by
  obtain ⟨i0, hi, hz0, hz1, hz2⟩ := info_parts infoUnit
  obtain ⟨w0, hw0⟩ : ∃ w0, w0 = w.alloc (.cells #[v0, v1, .slice aP pts.length capP, vS] 28) := ⟨_, rfl⟩
  have hB0 : Below w.heap.size w w0 := by rw [hw0]; exact (Below.refl _ _).alloc (Nat.le_refl _) _
  have x0 : w0.cell? ⟨w.heap.size, 2, none⟩ = some (.slice aP pts.length capP) := by rw [hw0, cell_of_row _ _ _ _ _ _ (heap_alloc_new w _)]; rfl
  have HS0 : Hid (w0.heap.size = w.heap.size + 1) := hid0 (by rw [hw0]; simp)
  have HNW := hid0 (new_ab A w0 (he.later hB0))
  have HA := hid0 ha
  have HB0 := hid0 hB0
  have hfold := hw0.symm
  clear ha he hB0 hw0
  go_enter Tryd.func4, Tryd.ntmps4
  have mk : Hid True := trivial
  go_wp2_with (first | (clear mk; go_at_call 7; refine HNW.out.mono ?_; rintro e w1 ⟨T, c, vN, vB, rfl, ht, hb⟩; have HT := hid0 ht; have HB01 := hid0 hb; have x1 := (hb.cell (p := ⟨w.heap.size, 2, none⟩) (World.block_lt_of_cell? _ _ x0)).trans x0; clear ht hb x0 HNW) | fail)
  have HLT1 : Hid (w.heap.size + 1 ≤ w1.heap.size) := hid0 (by have := HB01.out.size; have := HS0.out; omega)
  have HBw1 : Hid (Below w.heap.size w w1) := hid0 (Below.later HB0.out HB01.out)
  go_loopw [5, 6] (fun v i wr => ∃ k : Nat, k ≤ pts.length ∧ i = .int .i64 (k : Int) ∧ Hid (OwnU wr w1.heap.size v (pts.take k)) ∧ Hid (Below w1.heap.size w1 wr)) (fun _ i _ => pts.length - (intOf i).toNat)
  case atStart => exact ⟨0, Nat.zero_le _, rfl, hid0 (World.ownsRow_nil _ _ _ _), hid0 (Below.refl _ _)⟩
  case round =>
    obtain ⟨k, hk, rfl, HO, HB⟩ := hrel
    have hbs := HB.out.size
    have x2 := (HB.out.cell (p := ⟨w.heap.size, 2, none⟩) (World.block_lt_of_cell? _ _ x1)).trans x1
    have htl : (pts.take k).length = k := by rw [List.length_take]; omega
    have hOO : wr.ownsRow w1.heap.size 43 3 u5 k (cellsU (pts.take k)) := by have h := HO.out; unfold OwnU at h; rw [htl] at h; exact h
    have HOO := hid0 hOO
    have HTL := hid0 htl
    clear hOO htl
    by_cases hlt : k < pts.length
    · obtain ⟨b, off, rfl, hbw, hc⟩ := HA.out.at' k hlt
      have hbw1 : b < w1.heap.size := by have := HLT1.out; omega
      have hc' := (HB.out.cell (p := ⟨b, off + k, none⟩) hbw1).trans ((HBw1.out.cell (p := ⟨b, off + k, none⟩) hbw).trans hc)
      have hkI : (k : Int) < (pts.length : Int) := by omega
      have hkI0 : (0 : Int) ≤ (k : Int) := by omega
      have HTK : Hid (pts.take (k + 1) = pts.take k ++ [pts[k]]) := hid0 (by rw [List.take_add_one, List.getElem?_eq_getElem hlt]; rfl)
      generalize pts[k] = s at *
      clear hc x1
      go_wp2_with (at_builtin; refine wpList_append_own _ rfl _ _ 41 rfl w1.heap.size 43 i0 (.agg #[.int .i64 0, .int .i64 0, .int .i64 0]) 3 24 Tryd.underlying41 hi hz0 hz1 hz2 rfl (by decide) _ _ _ rfl (HOO.out.alloc _) ⟨wr.heap.size, 0, none⟩ 1 1 [.int .i64 s, .int .i64 0, .int .i64 0] rfl rfl (cell3_new _ _ _ _ _) ?c2b ?c3b ?c4b ?c5b ?_)
      case c2b => simp [Value.oneCell']
      case c3b => unfold maxLen; omega
      case c4b => omega
      case c5b => simp; omega
      intro v2 w4 hown' hgrow _
      obtain ⟨g1, g2⟩ := ownU_snoc (w := w1) (base := w1.heap.size) (us := pts.take k) (u := s) (n := k) HTL.out.symm HO.out hown' hgrow HB.out (Nat.le_refl _)
      have HO4 : Hid (OwnU w4 w1.heap.size v2 (pts.take (k + 1))) := hid0 (by rw [HTK.out]; exact g1)
      have HB4 := hid0 g2
      clear hown' hgrow g1 g2 HOO HO HB
      go_wp2
      go_roundw
      case rel => exact ⟨k + 1, by omega, by go_num, HO4, HB4⟩
      case measure => simp [intOf]; omega
    · have hkI : ¬ (k : Int) < (pts.length : Int) := by omega
      have HTA : Hid (pts.take k = pts) := hid0 (List.take_of_length_le (by omega))
      go_wp2_with (at_builtin; refine wpList_append_own _ rfl _ _ 41 rfl w1.heap.size 43 i0 (.agg #[.int .i64 0, .int .i64 0, .int .i64 0]) 3 24 Tryd.underlying41 hi hz0 hz1 hz2 rfl (by decide) _ _ _ rfl (HOO.out.alloc _) ⟨wr.heap.size, 0, none⟩ 1 1 [.int .i64 66, .int .i64 0, .int .i64 0] rfl rfl (cell3_new _ _ _ _ _) ?d2b ?d3b ?d4b ?d5b ?_)
      case d2b => simp [Value.oneCell']
      case d3b => unfold maxLen; omega
      case d4b => omega
      case d5b => first | omega | (simp; omega)
      intro vl w2 hown' hgrow _
      obtain ⟨g1, g2⟩ := ownU_snoc (w := w1) (base := w1.heap.size) (us := pts.take k) (u := 66) (n := k) HTL.out.symm HO.out hown' hgrow HB.out (Nat.le_refl _)
      rw [HTA.out] at g1
      obtain ⟨U, hU⟩ : ∃ U, U = pts ++ [66] := ⟨_, rfl⟩
      have hn1 : 0 < U.length := by rw [hU]; simp
      have hnb : U.length ≤ 100000001 := by rw [hU]; simp; omega
      have HUL : Hid (U[U.length - 1]? = some 66) := hid0 (by rw [hU]; simp)
      rw [← hU] at g1
      have HOu : Hid (OwnU w2 w1.heap.size vl U) := hid0 g1
      have HB12 := hid0 g2
      have Hz1 : Hid (w1.heap.size ≤ w2.heap.size) := hid0 g2.size
      have HAt : Hid (Agree w1 w2 (w0.heap.size + 2)) := hid0 ((Agree.refl _ _).below g2)
      have HAu : Hid (Agree w2 w2 w1.heap.size) := hid0 (Agree.refl _ _)
      have HBw : Hid (Below w.heap.size w w2) := hid0 (Below.later HBw1.out g2)
      obtain ⟨al, cl, rfl, hjunk⟩ := g1.up
      clear hjunk
      clear hown' hgrow g1 g2 HOO HO HB hU HTL HTA HA x1 x2 hkI hk hlt hbs HB0 HB01
      have HC := hid0 (names_any w2 (w0.heap.size + 2) T [otherB, bA, bB] [(65, 90, 1)] c vN vB (by decide) (by decide) (tab_agree HT.out HAt.out))
      have mk : Hid True := trivial
      go_wp2_with (first | (clear mk; go_at_call 8; refine HC.out.mono ?_; rintro e w3 ⟨va, rfl, h1, h2⟩; obtain ⟨aa, ca, rfl, hjunk⟩ := h1.sa; clear hjunk; have HOa := hid0 h1; have HBn := hid0 h2; clear h1 h2) | fail)
      have HAt := hid0 (HAt.out.below HBn.out)
      have HAu := hid0 (HAu.out.below HBn.out)
      have HBw := hid0 (Below.later HBw.out HBn.out)
      have Hz3 : Hid (w2.heap.size ≤ w3.heap.size) := hid0 HBn.out.size
      have HAa : Hid (Agree w3 w3 w2.heap.size) := hid0 (Agree.refl _ _)
      clear HBn HC
      have HOar : Hid (w3.ownsRow w2.heap.size 9 1 (.slice aa 3 ca) 3 (cellsS [otherB, bA, bB])) := hid0 (by have h := HOa.out; unfold OwnS at h; exact h)
      have HC := hid0 (names_any w3 (w0.heap.size + 2) T [otherB, bA, bB] [(65, 90, 1)] c vN vB (by decide) (by decide) (tab_agree HT.out HAt.out))
      have mk : Hid True := trivial
      go_wp2_with (first | (clear mk; go_at_call 8; refine HC.out.mono ?_; rintro e w4 ⟨vd, rfl, h1, h2⟩; obtain ⟨ad, cd, rfl, hjunk⟩ := h1.sa; clear hjunk; have HOd := hid0 h1; have HBn := hid0 h2; clear h1 h2) | fail)
      have HAt := hid0 (HAt.out.below HBn.out)
      have HAu := hid0 (HAu.out.below HBn.out)
      have HAa := hid0 (HAa.out.below HBn.out)
      have HBw := hid0 (Below.later HBw.out HBn.out)
      have Hz4 : Hid (w3.heap.size ≤ w4.heap.size) := hid0 HBn.out.size
      have HAd : Hid (Agree w4 w4 w3.heap.size) := hid0 (Agree.refl _ _)
      clear HBn HC
      have HOdr : Hid (w4.ownsRow w3.heap.size 9 1 (.slice ad 3 cd) 3 (cellsS [otherB, bA, bB])) := hid0 (by have h := HOd.out; unfold OwnS at h; exact h)
      obtain ⟨al', cl', e', hup, hub⟩ := OwnU.up (own_agree (by have h := HOu.out; unfold OwnU at h; exact h : w2.ownsRow w1.heap.size 43 3 _ U.length (cellsU U)) HAu.out)
      cases e'
      have HC := hid0 (classes_any 2 w4 (w0.heap.size + 2) T [otherB, bA, bB] [(65, 90, 1)] c vN vB U al cl (by omega) rise_ab (by decide) (by decide) (tab_agree HT.out HAt.out) hup hub)
      clear hup hub
      have mk : Hid True := trivial
      go_wp2_with (first | (clear mk; go_at_call 11; refine HC.out.mono ?_; rintro e w5 ⟨vb, rfl, h1, h2⟩; obtain ⟨ab, cb, rfl, hjunk⟩ := h1.ia; clear hjunk; have HOb := hid0 h1; have HBn := hid0 h2; clear h1 h2) | fail)
      have HAt := hid0 (HAt.out.below HBn.out)
      have HAu := hid0 (HAu.out.below HBn.out)
      have HAa := hid0 (HAa.out.below HBn.out)
      have HAd := hid0 (HAd.out.below HBn.out)
      have HBw := hid0 (Below.later HBw.out HBn.out)
      have Hz5 : Hid (w4.heap.size ≤ w5.heap.size) := hid0 HBn.out.size
      have HAb : Hid (Agree w5 w5 w4.heap.size) := hid0 (Agree.refl _ _)
      clear HBn HC
      have HObr : Hid (w5.ownsRow w4.heap.size 3 1 (.slice ab U.length cb) U.length (((U.map (cls [(65, 90, 1)])).map (Value.int .i64)))) := hid0 (by have h := HOb.out; unfold OwnI at h; simp only [List.length_map] at h; exact h)
      obtain ⟨al', cl', e', hup, hub⟩ := OwnU.up (own_agree (by have h := HOu.out; unfold OwnU at h; exact h : w2.ownsRow w1.heap.size 43 3 _ U.length (cellsU U)) HAu.out)
      cases e'
      have HC := hid0 (classes_any 2 w5 (w0.heap.size + 2) T [otherB, bA, bB] [(65, 90, 1)] c vN vB U al cl (by omega) rise_ab (by decide) (by decide) (tab_agree HT.out HAt.out) hup hub)
      clear hup hub
      have mk : Hid True := trivial
      go_wp2_with (first | (clear mk; go_at_call 11; refine HC.out.mono ?_; rintro e w6 ⟨vc, rfl, h1, h2⟩; obtain ⟨ac, cc, rfl, hjunk⟩ := h1.ia; clear hjunk; have HOc := hid0 h1; have HBn := hid0 h2; clear h1 h2) | fail)
      have HAt := hid0 (HAt.out.below HBn.out)
      have HAu := hid0 (HAu.out.below HBn.out)
      have HAa := hid0 (HAa.out.below HBn.out)
      have HAd := hid0 (HAd.out.below HBn.out)
      have HAb := hid0 (HAb.out.below HBn.out)
      have HBw := hid0 (Below.later HBw.out HBn.out)
      have Hz6 : Hid (w5.heap.size ≤ w6.heap.size) := hid0 HBn.out.size
      have HAc : Hid (Agree w6 w6 w5.heap.size) := hid0 (Agree.refl _ _)
      clear HBn HC
      have HOcr : Hid (w6.ownsRow w5.heap.size 3 1 (.slice ac U.length cc) U.length (((U.map (cls [(65, 90, 1)])).map (Value.int .i64)))) := hid0 (by have h := HOc.out; unfold OwnI at h; simp only [List.length_map] at h; exact h)
      have HOar' : Hid (w3.ownsRow w2.heap.size 9 1 (.slice aa [otherB, bA, bB].length ca) [otherB, bA, bB].length (cellsS [otherB, bA, bB])) := HOa
      have HOdr' : Hid (w4.ownsRow w3.heap.size 9 1 (.slice ad [otherB, bA, bB].length cd) [otherB, bA, bB].length (cellsS [otherB, bA, bB])) := HOd
      have HObr' : Hid (w5.ownsRow w4.heap.size 3 1 (.slice ab (U.map (cls [(65, 90, 1)])).length cb) (U.map (cls [(65, 90, 1)])).length (((U.map (cls [(65, 90, 1)])).map (Value.int .i64)))) := HOb
      have HOcr' : Hid (w6.ownsRow w5.heap.size 3 1 (.slice ac (U.map (cls [(65, 90, 1)])).length cc) (U.map (cls [(65, 90, 1)])).length (((U.map (cls [(65, 90, 1)])).map (Value.int .i64)))) := HOc
      have hcm : (U.map (cls [(65, 90, 1)])).length = U.length := List.length_map _
      have HCM := hid0 hcm
      clear hcm
      have HC0 := ints_any (U.map (cls [(65, 90, 1)])) ac cc w6 (by rw [HCM.out]; omega) (by obtain ⟨q1, q2, q3, q4⟩ := OwnI.ia (own_agree HOcr'.out HAc.out); cases q3; exact q4 : IA w6 ac (U.map (cls [(65, 90, 1)])))
      rw [HCM.out] at HC0
      have HC := hid0 HC0
      clear HC0
      have mk : Hid True := trivial
      go_wp2_with (first | (clear mk; go_at_call 12; refine HC.out.mono ?_; rintro e w7 ⟨vh, rfl, h1, h2⟩; obtain ⟨ah, ch, rfl, hjunk⟩ := h1.ia; clear hjunk; have HOh := hid0 h1; have HBn := hid0 h2; clear h1 h2) | fail)
      have HAt := hid0 (HAt.out.below HBn.out)
      have HAu := hid0 (HAu.out.below HBn.out)
      have HAa := hid0 (HAa.out.below HBn.out)
      have HAd := hid0 (HAd.out.below HBn.out)
      have HAb := hid0 (HAb.out.below HBn.out)
      have HAc := hid0 (HAc.out.below HBn.out)
      have HBw := hid0 (Below.later HBw.out HBn.out)
      have Hz7 : Hid (w6.heap.size ≤ w7.heap.size) := hid0 HBn.out.size
      have HAh : Hid (Agree w7 w7 w6.heap.size) := hid0 (Agree.refl _ _)
      clear HBn HC
      have HOhr : Hid (w7.ownsRow w6.heap.size 3 1 (.slice ah U.length ch) U.length (((U.map (cls [(65, 90, 1)])).map (Value.int .i64)))) := hid0 (by have h := HOh.out; unfold OwnI at h; simp only [List.length_map] at h; exact h)
      have HOhr' : Hid (w7.ownsRow w6.heap.size 3 1 (.slice ah (U.map (cls [(65, 90, 1)])).length ch) (U.map (cls [(65, 90, 1)])).length (((U.map (cls [(65, 90, 1)])).map (Value.int .i64)))) := HOh
      have HSP := hid0 (spoilS _ 3 w2.heap.size _ w7 (by decide) (by decide) (by have z0 := Hz1.out; have z1 := Hz3.out; have z2 := Hz4.out; have z3 := Hz5.out; have z4 := Hz6.out; have z5 := Hz7.out; omega) (own_agree HOar.out HAa.out))
      have mk : Hid True := trivial
      go_wp2_with (first | (clear mk; go_at_call 13; refine HSP.out.mono ?_; rintro e w8 ⟨rfl, h1⟩; have HOn := hid0 h1; clear h1) | fail)
      have HKb : Hid (∀ k, (Value.slice aa 3 ca).ownBlock = some k → w2.heap.size ≤ k ∧ k < w3.heap.size) := hid0 (fun k hk => World.ownsRow.lt HOar.out k hk)
      have HAt := hid0 (HAt.out.only HOn.out (fun k hk => by have h := HKb.out k hk; have z0 := Hz1.out; have z1 := Hz3.out; have z2 := Hz4.out; have z3 := Hz5.out; have z4 := Hz6.out; have z5 := Hz7.out; omega))
      have HAu := hid0 (HAu.out.only HOn.out (fun k hk => by have h := HKb.out k hk; have z0 := Hz1.out; have z1 := Hz3.out; have z2 := Hz4.out; have z3 := Hz5.out; have z4 := Hz6.out; have z5 := Hz7.out; omega))
      have HAd := hid0 (HAd.out.only HOn.out (fun k hk => by have h := HKb.out k hk; have z0 := Hz1.out; have z1 := Hz3.out; have z2 := Hz4.out; have z3 := Hz5.out; have z4 := Hz6.out; have z5 := Hz7.out; omega))
      have HAb := hid0 (HAb.out.only HOn.out (fun k hk => by have h := HKb.out k hk; have z0 := Hz1.out; have z1 := Hz3.out; have z2 := Hz4.out; have z3 := Hz5.out; have z4 := Hz6.out; have z5 := Hz7.out; omega))
      have HAc := hid0 (HAc.out.only HOn.out (fun k hk => by have h := HKb.out k hk; have z0 := Hz1.out; have z1 := Hz3.out; have z2 := Hz4.out; have z3 := Hz5.out; have z4 := Hz6.out; have z5 := Hz7.out; omega))
      have HAh := hid0 (HAh.out.only HOn.out (fun k hk => by have h := HKb.out k hk; have z0 := Hz1.out; have z1 := Hz3.out; have z2 := Hz4.out; have z3 := Hz5.out; have z4 := Hz6.out; have z5 := Hz7.out; omega))
      have HBw := hid0 (below_only HBw.out HOn.out (fun k hk => by have h := HKb.out k hk; have z0 := Hz1.out; have z1 := Hz3.out; have z2 := Hz4.out; have z3 := Hz5.out; have z4 := Hz6.out; have z5 := Hz7.out; have q := HS0.out; have q2 := HLT1.out; omega))
      have Hz8 : Hid (w7.heap.size ≤ w8.heap.size) := hid0 HOn.out.size
      clear HOn HKb HSP HAa
      have HSP := hid0 (spoilI _ U.length w4.heap.size _ w8 hn1 (by omega) (by have z0 := Hz1.out; have z1 := Hz3.out; have z2 := Hz4.out; have z3 := Hz5.out; have z4 := Hz6.out; have z5 := Hz7.out; have z6 := Hz8.out; omega) (own_agree HObr.out HAb.out))
      have mk : Hid True := trivial
      go_wp2_with (first | (clear mk; go_at_call 14; refine HSP.out.mono ?_; rintro e w9 ⟨rfl, h1⟩; have HOn := hid0 h1; clear h1) | fail)
      have HKb : Hid (∀ k, (Value.slice ab U.length cb).ownBlock = some k → w4.heap.size ≤ k ∧ k < w5.heap.size) := hid0 (fun k hk => World.ownsRow.lt HObr.out k hk)
      have HAt := hid0 (HAt.out.only HOn.out (fun k hk => by have h := HKb.out k hk; have z0 := Hz1.out; have z1 := Hz3.out; have z2 := Hz4.out; have z3 := Hz5.out; have z4 := Hz6.out; have z5 := Hz7.out; have z6 := Hz8.out; omega))
      have HAu := hid0 (HAu.out.only HOn.out (fun k hk => by have h := HKb.out k hk; have z0 := Hz1.out; have z1 := Hz3.out; have z2 := Hz4.out; have z3 := Hz5.out; have z4 := Hz6.out; have z5 := Hz7.out; have z6 := Hz8.out; omega))
      have HAd := hid0 (HAd.out.only HOn.out (fun k hk => by have h := HKb.out k hk; have z0 := Hz1.out; have z1 := Hz3.out; have z2 := Hz4.out; have z3 := Hz5.out; have z4 := Hz6.out; have z5 := Hz7.out; have z6 := Hz8.out; omega))
      have HAc := hid0 (HAc.out.only HOn.out (fun k hk => by have h := HKb.out k hk; have z0 := Hz1.out; have z1 := Hz3.out; have z2 := Hz4.out; have z3 := Hz5.out; have z4 := Hz6.out; have z5 := Hz7.out; have z6 := Hz8.out; omega))
      have HAh := hid0 (HAh.out.only HOn.out (fun k hk => by have h := HKb.out k hk; have z0 := Hz1.out; have z1 := Hz3.out; have z2 := Hz4.out; have z3 := Hz5.out; have z4 := Hz6.out; have z5 := Hz7.out; have z6 := Hz8.out; omega))
      have HBw := hid0 (below_only HBw.out HOn.out (fun k hk => by have h := HKb.out k hk; have z0 := Hz1.out; have z1 := Hz3.out; have z2 := Hz4.out; have z3 := Hz5.out; have z4 := Hz6.out; have z5 := Hz7.out; have z6 := Hz8.out; have q := HS0.out; have q2 := HLT1.out; omega))
      have Hz9 : Hid (w8.heap.size ≤ w9.heap.size) := hid0 HOn.out.size
      clear HOn HKb HSP HAb
      have HC := hid0 (sameS [otherB, bA, bB] ad (some ⟨w9.heap.size, 0, none⟩) cd 3 (w9.alloc (.cells #[.string otherB, .string bA, .string bB] 9)) (by decide) (((by obtain ⟨q1, q2, q3, q4, _⟩ := OwnS.sa (own_agree HOdr'.out HAd.out); cases q3; exact q4 : SA w9 ad [otherB, bA, bB])).below ((Below.refl _ _).alloc (Nat.le_refl _) _)) (sa3_new w9 otherB bA bB 9))
      have mk : Hid True := trivial
      go_wp2_with (first | (clear mk; go_at_call 15; refine HC.out.mono ?_; rintro e w10 ⟨rfl, nd, hdd⟩; have HD := hid0 hdd; clear hdd) | fail)
      have HBn : Hid (Below w9.heap.size w9 w10) := hid0 (by rw [HD.out]; exact below_drewN ((Below.refl _ _).alloc (Nat.le_refl _) _) nd)
      have HAt := hid0 (HAt.out.below HBn.out)
      have HAu := hid0 (HAu.out.below HBn.out)
      have HAd := hid0 (HAd.out.below HBn.out)
      have HAc := hid0 (HAc.out.below HBn.out)
      have HAh := hid0 (HAh.out.below HBn.out)
      have HBw := hid0 (Below.later HBw.out HBn.out)
      have Hz10 : Hid (w9.heap.size ≤ w10.heap.size) := hid0 HBn.out.size
      clear HBn HD HC nd
      have HC0 := sameI (U.map (cls [(65, 90, 1)])) ac ah cc ch w10 (by rw [HCM.out]; omega) (by obtain ⟨q1, q2, q3, q4⟩ := OwnI.ia (own_agree HOcr'.out HAc.out); cases q3; exact q4 : IA w10 ac (U.map (cls [(65, 90, 1)]))) (by obtain ⟨q1, q2, q3, q4⟩ := OwnI.ia (own_agree HOhr'.out HAh.out); cases q3; exact q4 : IA w10 ah (U.map (cls [(65, 90, 1)])))
      rw [HCM.out] at HC0
      have HC := hid0 HC0
      clear HC0
      have mk : Hid True := trivial
      go_wp2_with (first | (clear mk; go_at_call 16; refine HC.out.mono ?_; rintro e w11 ⟨rfl, nd, hdd⟩; have HD := hid0 hdd; clear hdd) | fail)
      have HBn : Hid (Below w10.heap.size w10 w11) := hid0 (by rw [HD.out]; exact below_drewN (Below.refl _ _) nd)
      have HAt := hid0 (HAt.out.below HBn.out)
      have HAu := hid0 (HAu.out.below HBn.out)
      have HAd := hid0 (HAd.out.below HBn.out)
      have HAc := hid0 (HAc.out.below HBn.out)
      have HAh := hid0 (HAh.out.below HBn.out)
      have HBw := hid0 (Below.later HBw.out HBn.out)
      have Hz11 : Hid (w10.heap.size ≤ w11.heap.size) := hid0 HBn.out.size
      clear HBn HD HC nd
      have HSP := hid0 (spoilS _ 3 w3.heap.size _ w11 (by decide) (by decide) (by have z0 := Hz1.out; have z1 := Hz3.out; have z2 := Hz4.out; have z3 := Hz5.out; have z4 := Hz6.out; have z5 := Hz7.out; have z6 := Hz8.out; have z7 := Hz9.out; have z8 := Hz10.out; have z9 := Hz11.out; omega) (own_agree HOdr.out HAd.out))
      have mk : Hid True := trivial
      go_wp2_with (first | (clear mk; go_at_call 13; refine HSP.out.mono ?_; rintro e w12 ⟨rfl, h1⟩; have HOn := hid0 h1; clear h1) | fail)
      have HKb : Hid (∀ k, (Value.slice ad 3 cd).ownBlock = some k → w3.heap.size ≤ k ∧ k < w4.heap.size) := hid0 (fun k hk => World.ownsRow.lt HOdr.out k hk)
      have HAt := hid0 (HAt.out.only HOn.out (fun k hk => by have h := HKb.out k hk; have z0 := Hz1.out; have z1 := Hz3.out; have z2 := Hz4.out; have z3 := Hz5.out; have z4 := Hz6.out; have z5 := Hz7.out; have z6 := Hz8.out; have z7 := Hz9.out; have z8 := Hz10.out; have z9 := Hz11.out; omega))
      have HAu := hid0 (HAu.out.only HOn.out (fun k hk => by have h := HKb.out k hk; have z0 := Hz1.out; have z1 := Hz3.out; have z2 := Hz4.out; have z3 := Hz5.out; have z4 := Hz6.out; have z5 := Hz7.out; have z6 := Hz8.out; have z7 := Hz9.out; have z8 := Hz10.out; have z9 := Hz11.out; omega))
      have HAc := hid0 (HAc.out.only HOn.out (fun k hk => by have h := HKb.out k hk; have z0 := Hz1.out; have z1 := Hz3.out; have z2 := Hz4.out; have z3 := Hz5.out; have z4 := Hz6.out; have z5 := Hz7.out; have z6 := Hz8.out; have z7 := Hz9.out; have z8 := Hz10.out; have z9 := Hz11.out; omega))
      have HAh := hid0 (HAh.out.only HOn.out (fun k hk => by have h := HKb.out k hk; have z0 := Hz1.out; have z1 := Hz3.out; have z2 := Hz4.out; have z3 := Hz5.out; have z4 := Hz6.out; have z5 := Hz7.out; have z6 := Hz8.out; have z7 := Hz9.out; have z8 := Hz10.out; have z9 := Hz11.out; omega))
      have HBw := hid0 (below_only HBw.out HOn.out (fun k hk => by have h := HKb.out k hk; have z0 := Hz1.out; have z1 := Hz3.out; have z2 := Hz4.out; have z3 := Hz5.out; have z4 := Hz6.out; have z5 := Hz7.out; have z6 := Hz8.out; have z7 := Hz9.out; have z8 := Hz10.out; have z9 := Hz11.out; have q := HS0.out; have q2 := HLT1.out; omega))
      have Hz12 : Hid (w11.heap.size ≤ w12.heap.size) := hid0 HOn.out.size
      clear HOn HKb HSP HAd
      have HSP := hid0 (spoilI _ U.length w5.heap.size _ w12 hn1 (by omega) (by have z0 := Hz1.out; have z1 := Hz3.out; have z2 := Hz4.out; have z3 := Hz5.out; have z4 := Hz6.out; have z5 := Hz7.out; have z6 := Hz8.out; have z7 := Hz9.out; have z8 := Hz10.out; have z9 := Hz11.out; have z10 := Hz12.out; omega) (own_agree HOcr.out HAc.out))
      have mk : Hid True := trivial
      go_wp2_with (first | (clear mk; go_at_call 14; refine HSP.out.mono ?_; rintro e w13 ⟨rfl, h1⟩; have HOn := hid0 h1; clear h1) | fail)
      have HKb : Hid (∀ k, (Value.slice ac U.length cc).ownBlock = some k → w5.heap.size ≤ k ∧ k < w6.heap.size) := hid0 (fun k hk => World.ownsRow.lt HOcr.out k hk)
      have HAt := hid0 (HAt.out.only HOn.out (fun k hk => by have h := HKb.out k hk; have z0 := Hz1.out; have z1 := Hz3.out; have z2 := Hz4.out; have z3 := Hz5.out; have z4 := Hz6.out; have z5 := Hz7.out; have z6 := Hz8.out; have z7 := Hz9.out; have z8 := Hz10.out; have z9 := Hz11.out; have z10 := Hz12.out; omega))
      have HAu := hid0 (HAu.out.only HOn.out (fun k hk => by have h := HKb.out k hk; have z0 := Hz1.out; have z1 := Hz3.out; have z2 := Hz4.out; have z3 := Hz5.out; have z4 := Hz6.out; have z5 := Hz7.out; have z6 := Hz8.out; have z7 := Hz9.out; have z8 := Hz10.out; have z9 := Hz11.out; have z10 := Hz12.out; omega))
      have HAh := hid0 (HAh.out.only HOn.out (fun k hk => by have h := HKb.out k hk; have z0 := Hz1.out; have z1 := Hz3.out; have z2 := Hz4.out; have z3 := Hz5.out; have z4 := Hz6.out; have z5 := Hz7.out; have z6 := Hz8.out; have z7 := Hz9.out; have z8 := Hz10.out; have z9 := Hz11.out; have z10 := Hz12.out; omega))
      have HBw := hid0 (below_only HBw.out HOn.out (fun k hk => by have h := HKb.out k hk; have z0 := Hz1.out; have z1 := Hz3.out; have z2 := Hz4.out; have z3 := Hz5.out; have z4 := Hz6.out; have z5 := Hz7.out; have z6 := Hz8.out; have z7 := Hz9.out; have z8 := Hz10.out; have z9 := Hz11.out; have z10 := Hz12.out; have q := HS0.out; have q2 := HLT1.out; omega))
      have Hz13 : Hid (w12.heap.size ≤ w13.heap.size) := hid0 HOn.out.size
      clear HOn HKb HSP HAc
      have HC := hid0 (names_any w13 (w0.heap.size + 2) T [otherB, bA, bB] [(65, 90, 1)] c vN vB (by decide) (by decide) (tab_agree HT.out HAt.out))
      have mk : Hid True := trivial
      go_wp2_with (first | (clear mk; go_at_call 8; refine HC.out.mono ?_; rintro e w14 ⟨vn, rfl, h1, h2⟩; obtain ⟨an, cn, rfl, hjunk⟩ := h1.sa; clear hjunk; have HOn := hid0 h1; have HBn := hid0 h2; clear h1 h2) | fail)
      have HAt := hid0 (HAt.out.below HBn.out)
      have HAu := hid0 (HAu.out.below HBn.out)
      have HAh := hid0 (HAh.out.below HBn.out)
      have HBw := hid0 (Below.later HBw.out HBn.out)
      have Hz14 : Hid (w13.heap.size ≤ w14.heap.size) := hid0 HBn.out.size
      have HAn : Hid (Agree w14 w14 w13.heap.size) := hid0 (Agree.refl _ _)
      clear HBn HC
      have HOnr' : Hid (w14.ownsRow w13.heap.size 9 1 (.slice an [otherB, bA, bB].length cn) [otherB, bA, bB].length (cellsS [otherB, bA, bB])) := HOn
      have HC := hid0 (sameS [otherB, bA, bB] an (some ⟨w14.heap.size, 0, none⟩) cn 3 (w14.alloc (.cells #[.string otherB, .string bA, .string bB] 9)) (by decide) (((by obtain ⟨q1, q2, q3, q4, _⟩ := OwnS.sa (own_agree HOnr'.out HAn.out); cases q3; exact q4 : SA w14 an [otherB, bA, bB])).below ((Below.refl _ _).alloc (Nat.le_refl _) _)) (sa3_new w14 otherB bA bB 9))
      have mk : Hid True := trivial
      go_wp2_with (first | (clear mk; go_at_call 15; refine HC.out.mono ?_; rintro e w15 ⟨rfl, nd, hdd⟩; have HD := hid0 hdd; clear hdd) | fail)
      have HBn : Hid (Below w14.heap.size w14 w15) := hid0 (by rw [HD.out]; exact below_drewN ((Below.refl _ _).alloc (Nat.le_refl _) _) nd)
      have HAt := hid0 (HAt.out.below HBn.out)
      have HAu := hid0 (HAu.out.below HBn.out)
      have HAh := hid0 (HAh.out.below HBn.out)
      have HAn := hid0 (HAn.out.below HBn.out)
      have HBw := hid0 (Below.later HBw.out HBn.out)
      have Hz15 : Hid (w14.heap.size ≤ w15.heap.size) := hid0 HBn.out.size
      clear HBn HD HC nd
      obtain ⟨al', cl', e', hup, hub⟩ := OwnU.up (own_agree (by have h := HOu.out; unfold OwnU at h; exact h : w2.ownsRow w1.heap.size 43 3 _ U.length (cellsU U)) HAu.out)
      cases e'
      have HC := hid0 (classes_any 2 w15 (w0.heap.size + 2) T [otherB, bA, bB] [(65, 90, 1)] c vN vB U al cl (by omega) rise_ab (by decide) (by decide) (tab_agree HT.out HAt.out) hup hub)
      clear hup hub
      have mk : Hid True := trivial
      go_wp2_with (first | (clear mk; go_at_call 11; refine HC.out.mono ?_; rintro e w16 ⟨ve, rfl, h1, h2⟩; obtain ⟨ae, ce, rfl, hjunk⟩ := h1.ia; clear hjunk; have HOe := hid0 h1; have HBn := hid0 h2; clear h1 h2) | fail)
      have HAt := hid0 (HAt.out.below HBn.out)
      have HAu := hid0 (HAu.out.below HBn.out)
      have HAh := hid0 (HAh.out.below HBn.out)
      have HAn := hid0 (HAn.out.below HBn.out)
      have HBw := hid0 (Below.later HBw.out HBn.out)
      have Hz16 : Hid (w15.heap.size ≤ w16.heap.size) := hid0 HBn.out.size
      have HAe : Hid (Agree w16 w16 w15.heap.size) := hid0 (Agree.refl _ _)
      clear HBn HC
      have HOer' : Hid (w16.ownsRow w15.heap.size 3 1 (.slice ae (U.map (cls [(65, 90, 1)])).length ce) (U.map (cls [(65, 90, 1)])).length (((U.map (cls [(65, 90, 1)])).map (Value.int .i64)))) := HOe
      obtain ⟨gh, chh, eh, _, _⟩ := World.ownsRow.form HOhr.out hn1
      cases eh
      obtain ⟨m, hm⟩ : ∃ m, U.length = m + 1 := ⟨U.length - 1, by omega⟩
      have hsub : (U.length : Int) - 1 = (m : Int) := by omega
      have hmI0 : (0 : Int) ≤ (m : Int) := by omega
      have hmI : (m : Int) < (U.length : Int) := by omega
      have hmW : IntKind.i64.wrap (m : Int) = (m : Int) := by simp [IntKind.wrap, IntKind.bits, IntKind.signed]; omega
      have HLC : Hid (∀ W, Agree w7 W w6.heap.size → W.cell? ⟨gh, m, none⟩ = some (.int .i64 2)) := hid0 (fun W hW => by
        rw [World.ownsRow.cellAt (own_agree HOhr.out hW) m (by omega), List.getElem?_map, List.getElem?_map]
        have h := HUL.out
        rw [hm, Nat.add_sub_cancel] at h
        rw [h]
        simp only [Option.map_some, cls_66])
      clear hm
      have HC0 := sameI (U.map (cls [(65, 90, 1)])) ae (some ⟨gh, 0, none⟩) ce ch w16 (by rw [HCM.out]; omega) (by obtain ⟨q1, q2, q3, q4⟩ := OwnI.ia (own_agree HOer'.out HAe.out); cases q3; exact q4 : IA w16 ae (U.map (cls [(65, 90, 1)]))) (by obtain ⟨q1, q2, q3, q4⟩ := OwnI.ia (own_agree HOhr'.out HAh.out); cases q3; exact q4 : IA w16 (some ⟨gh, 0, none⟩) (U.map (cls [(65, 90, 1)])))
      rw [HCM.out] at HC0
      have HC := hid0 HC0
      clear HC0
      have mk : Hid True := trivial
      go_wp2_with (first | (clear mk; go_at_call 16; refine HC.out.mono ?_; rintro e w17 ⟨rfl, nd, hdd⟩; have HD := hid0 hdd; have xl : w17.cell? ⟨gh, m, none⟩ = some (.int .i64 2) := HLC.out _ (by rw [hdd]; exact HAh.out.drewN nd); clear hdd) | fail)
      have HBn : Hid (Below w16.heap.size w16 w17) := hid0 (by rw [HD.out]; exact below_drewN (Below.refl _ _) nd)
      have HEND := hid0 (Below.later HBw.out HBn.out)
      have hwd : ((U.length : Int) + 64 + ((U.length : Int) + 64) == 2 * (U.length : Int) + 128) = true := by rw [beq_iff_eq]; omega
      rw [hwd]
      go_ret
      exact ⟨rfl, HEND.out⟩
end Go.Proofs.YtpimameogmkpcaaDoor
