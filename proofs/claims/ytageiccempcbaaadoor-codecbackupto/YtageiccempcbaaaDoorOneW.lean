/-
  The walk of caesuralaw1.CodecOne.
-/
import Derived.Test.YtageiccempcbaaaDoorPartsW
import Derived.Test.YtageiccempcbaaaDoorRdW
import Derived.Deep.DeepCutAuto
namespace Go.Proofs.YtageiccempcbaaaDoor
open Go.RowKit
theorem Later.only {w w2 w3 : World} {a b c : Value} {S : Nat → Prop} (h : Later w w.heap.size a b c w2) (ho : Only w2 w3 S) (hs : ∀ i, S i → w.heap.size < i) : Later w w.heap.size a b c w3 := by
  have hb : Below (w.heap.size + 1) w2 w3 := ho.below h.lt (fun i hi => hs i hi)
  have h0 := h.tab.pos
  refine ⟨h.bel.trans (hb.mono (by omega)), box3_keep hb (by omega) h.box, Nat.lt_of_lt_of_le h.lt ho.size, ?_⟩

  exact h.tab.below hb (by omega)
theorem Rd.later {w w' : World} {R : Nat} {v : Value} {l : List UInt8} (h : Rd w R v l) (hb : Below w.heap.size w w') : Rd w' R v l :=
  ⟨(hb.block R h.lt).trans h.blk, h.seg.later hb⟩
/-- The three refusals in memory. -/
structure Errs (w : World) (pa ps pf : Addr) : Prop where
  arg : w.cell? ⟨1, 0, none⟩ = some (.iface 85 (.pointer (some pa)))
  short : w.cell? ⟨3, 0, none⟩ = some (.iface 85 (.pointer (some ps)))
  form : w.cell? ⟨4, 0, none⟩ = some (.iface 85 (.pointer (some pf)))
theorem Errs.below {w w' : World} {B : Nat} {pa ps pf : Addr} (h : Errs w pa ps pf) (hb : Below B w w') (h1 : 1 < B) (h3 : 3 < B) (h4 : 4 < B) : Errs w' pa ps pf :=
  ⟨(hb.cell (p := ⟨1, 0, none⟩) h1).trans h.arg, (hb.cell (p := ⟨3, 0, none⟩) h3).trans h.short, (hb.cell (p := ⟨4, 0, none⟩) h4).trans h.form⟩
theorem Errs.at {w w' : World} {n : Nat} {a b c : Value} {pa ps pf : Addr} (h : Errs w pa ps pf) (hL : Later w n a b c w') : Errs w' pa ps pf :=
  h.below hL.bel (World.block_lt_of_cell? w _ h.arg) (World.block_lt_of_cell? w _ h.short) (World.block_lt_of_cell? w _ h.form)
theorem begins_eq (a b : Nat) (ha : a < 9223372036854775808) (hb : b < 9223372036854775808) (pS qS : ByteArray) (hp : pS = ⟨(form 9 a).toArray⟩) (hq : qS = ⟨(form 9 b).toArray⟩) (_h : pS.size ≤ qS.size) :
    ((qS.extract 0 pS.size).toList == pS.toList) = ((a : Int) == (b : Int)) := by
  have e1 : pS.size = (form 9 a).length := by rw [hp]; rfl
  have e2 : (qS.extract 0 pS.size).data.toList = qS.data.toList.take pS.size := by simp [ByteArray.data_extract]
  rw [ByteArray.toList_eq, ByteArray.toList_eq, e2, e1, hp, hq]
  show ((form 9 b).take (form 9 a).length == form 9 a) = _
  by_cases hab : a = b
  · subst hab
    simp
  · have h1 : ((a : Int) == (b : Int)) = false := by simp; omega
    rw [h1]
    apply beq_eq_false_iff_ne.2
    intro e
    refine hab (form_prefix a b ha hb ((form 9 b).drop (form 9 a).length) ?_)
    have h2 := (List.take_append_drop (form 9 a).length (form 9 b)).symm
    rw [e] at h2
    exact h2
theorem ne_bool {a b : Int} (h : ¬ a = b) : (!(a == b)) = true := by simpa using h
set_option maxRecDepth 10000 in
set_option maxHeartbeats 3200000 in
theorem one_ok_pp (P : ByteArray) (a : Nat) (ha : a < 9223372036854775808) (b : Nat) (hb : b < 9223372036854775808) (n k left : Nat) (pa ps pf : Addr) (w : World) (hP : P.size ≤ 140737488351232) (ht : TabAt w) (hE : Errs w pa ps pf) (hr : num P.data.toList = .ok n k) (hleft : k + left = P.size) :
    Calls Tryd.prog 7 #[.agg #[.string P, .int .i64 (a : Int), .int .i64 (b : Int)]] w fun e w' => e = .returned (.bool true) ∧ Below w.heap.size w w' := by
  obtain ⟨hfn, hn63⟩ := num_form _ _ _ hr
  have hstr : (⟨(form 9 n).toArray⟩ : ByteArray) = P.extract 0 k := by
    rw [hfn]; apply ByteArray.ext; rw [ByteArray.data_extract]; apply Array.ext'; simp
  have HS := hid0 hstr
  have HE := hid0 hE
  have HRn := hid0 hr
  have HL1 : Hid (Later w w.heap.size (.string P) (.int .i64 (a : Int)) (.int .i64 (b : Int)) (w.alloc (.cells #[.string P, .int .i64 (a : Int), .int .i64 (b : Int)] 45))) := Later.start ht
  have hkk : (P.size : Int) - (left : Int) = (k : Int) := by omega
  have hkw : IntKind.i64.wrap ((P.size : Int) - (left : Int)) = (k : Int) := by rw [hkk]; exact i64_wrap_nat k (by omega)
  clear hkk
  have hk0 : (0 : Int) ≤ (k : Int) := by omega
  have hk1 : (k : Int) ≤ (P.size : Int) := by omega
  clear ht hE hr hfn hstr
  go_enter Tryd.func7, Tryd.ntmps7
  go_wp2_with (first
    | (go_at_call 17; have hq := HL1.out; clear HL1; refine (known_any _ hq.tab).mono ?_; rintro e w2 ⟨rfl, hb2⟩; have HL2 := hid0 (hq.next hb2); obtain ⟨c0, c1, c2⟩ := HL2.out.box; clear hq hb2)
    | (go_at_call 13; have hq := HL2.out; clear HL2; refine (kitBytes_any P _ _ (by omega) (Nat.le_refl _)).mono ?_; rintro e w3 ⟨v3, rfl, ho3, hb3⟩; have HL3 := hid0 (hq.next hb3); have HO3 := hid0 ho3; clear hq hb3 ho3 c0 c1 c2)
    | (go_at_call 19; have hq := HL3.out; clear HL3; refine (newReader_any P.data.toList _ _ (by simp; omega) HO3.out.bytesAt HO3.out.inMem).mono ?_; rintro e w4 ⟨R, v4, rfl, hR4, hv4, hrd4, hb4⟩; have HL4 := hid0 (hq.next hb4); have HR4 := hid0 hrd4; have hRn : w.heap.size < R := Nat.lt_of_lt_of_le hq.lt hR4; clear hq hb4 hrd4 hv4 HO3 hR4)
    | (go_at_call 20; have hq := HL4.out; clear HL4; refine (newWriter_any _).mono ?_; rintro e w5 ⟨rfl, hw5⟩; have HL5 : Hid (Later w w.heap.size (.string P) (.int .i64 (a : Int)) (.int .i64 (b : Int)) w5) := (by rw [hw5]; exact hq.next (alloc_below _ _)); have HR5 : Hid (Rd w5 R v4 P.data.toList) := (by rw [hw5]; exact HR4.out.later (alloc_below _ _)); have HW5 : Hid (Wr w5 w4.heap.size (.slice none 0 0) []) := (by rw [hw5]; exact wr_new w4); have hRB : R < w4.heap.size := HR4.out.lt; clear hq hw5 HR4)
    | (go_at_call 21; have hq := HR5.out; clear HR5; have he5 := HE.out.at HL5.out; have hm := rdNum_any R v4 P.data.toList _ ps pf (by simp; omega) hq he5.short he5.form; rw [HRn.out, rdVal, rdRest] at hm; refine hm.mono ?_; clear hm he5; rintro e w6 ⟨rfl, v6, hrd6, ho6, hn6⟩; have HR6 := hid0 hrd6; have HL6 := hid0 (HL5.out.only ho6 (fun i hi => by omega)); have HW6 := hid0 (HW5.out.only ho6 (by omega) (fun k hk => by simp [Value.ownBlock] at hk)); obtain ⟨c0, c1, c2⟩ := HL6.out.box; clear hrd6 ho6 hn6 hq HL5 HW5)
    | (go_at_call 22; have hm := rdLeft_any R _ _ _ HR6.out; rw [show (P.data.toList.drop k).length = left by simp; omega] at hm; refine hm.mono ?_; clear hm; rintro e w7 ⟨rfl, rfl⟩)
    | (go_at_call 23; have hq := HW6.out; clear HW6; refine (wrNum_any n hn63 _ _ _ _ hq (by simp)).mono ?_; rintro e w8 ⟨rfl, v8, hr8, ho8, hn8⟩; have HW8 := hid0 hr8; have HL8 := hid0 (HL6.out.only ho8 (fun i hi => by rcases hi with rfl | hi; omega; simp [Value.ownBlock] at hi)); obtain ⟨d0, d1, d2⟩ := HL8.out.box; clear hq hr8 ho8 hn8 HL6 HR6 c0 c1 c2)
    | fail)
  rw [List.nil_append] at HW8
  have HD := hid0 HL8.out.drew
  have HWD : Hid (Wr w8.drew w4.heap.size v8 (form 9 n)) := ⟨HW8.out.blk, HW8.out.own, HW8.out.room⟩
  clear HL8 HW8
  go_region_held (fun w' => w'.cell? ⟨w.heap.size, 0, none⟩ = some (.string P) ∧ w'.cell? ⟨w.heap.size, 1, none⟩ = some (.int .i64 (a : Int)) ∧ w'.cell? ⟨w.heap.size, 2, none⟩ = some (.int .i64 (b : Int))) (first | go_keep | exact HL9.out.box)
    (first
    | (go_at_call 24; have hq := HWD.out; clear HWD; refine (wrBytes_any _ _ _ _ hq (by have := (form_length 9 n).2; omega)).mono ?_; rintro e w9 ⟨v9, rfl, ho9, hb9⟩; have HL9 := hid0 (HD.out.next hb9); have hconv := toString_any ho9.bytesAt; rw [HS.out] at hconv; clear hq hb9 ho9 HD))
  have HLq := HL9
  clear HL9
  obtain ⟨pS, hpS⟩ : ∃ s : ByteArray, s = ⟨(form 9 a).toArray⟩ := ⟨_, rfl⟩
  obtain ⟨qS, hqS⟩ : ∃ s : ByteArray, s = ⟨(form 9 b).toArray⟩ := ⟨_, rfl⟩
  have hps1 : 1 ≤ pS.size := by rw [hpS]; exact (form_length 9 a).1
  have hd1 : decide ((1 : Int) ≤ (pS.size : Int)) = true := by simp; omega
  have hps2 : pS.size ≤ 10 := by rw [hpS]; exact (form_length 9 a).2
  have hqs2 : qS.size ≤ 10 := by rw [hqS]; exact (form_length 9 b).2
  have HB := hid0 (begins_eq a b ha hb pS qS hpS hqS)
  have HZ : Hid ((a : Int) = (b : Int) → pS.size = qS.size) := fun e => by rw [hpS, hqS, show a = b by omega]
  have HpS := hid0 hpS
  have HqS := hid0 hqS
  clear hpS hqS
  go_wp2_with (first
    | (go_at_call 20; have hq := HLq.out; clear HLq; refine (newWriter_any _).mono ?_; rintro e wa ⟨rfl, hwa⟩; have HLa : Hid (Later w w.heap.size (.string P) (.int .i64 (a : Int)) (.int .i64 (b : Int)) wa) := (by rw [hwa]; exact hq.next (alloc_below _ _)); have HWa : Hid (Wr wa _ (.slice none 0 0) []) := (by rw [hwa]; exact wr_new _); have hbA := hq.lt; clear hq hwa)
    | (go_at_call 20; have hq := HLa.out; clear HLa; refine (newWriter_any _).mono ?_; rintro e wb ⟨rfl, hwb⟩; have HLb : Hid (Later w w.heap.size (.string P) (.int .i64 (a : Int)) (.int .i64 (b : Int)) wb) := (by rw [hwb]; exact hq.next (alloc_below _ _)); have HWb : Hid (Wr wb wa.heap.size (.slice none 0 0) []) := (by rw [hwb]; exact wr_new wa); have hAB := HWa.out.lt; have HWa2 := hid0 (HWa.out.below (w' := wb) (by rw [hwb]; exact alloc_below _ _)); have hBlt := HWb.out.lt; obtain ⟨g0, g1, g2⟩ := HLb.out.box; clear hq hwb HWa)
    | (go_at_call 23; have hq := HWa2.out; clear HWa2; refine (wrNum_any a ha _ _ _ _ hq (by simp)).mono ?_; rintro e wc ⟨rfl, vc, hrc, hoc, hnc⟩; rw [List.nil_append] at hrc; have HWc := hid0 hrc; have HLc := hid0 (HLb.out.only hoc (fun i hi => by rcases hi with rfl | hi; omega; simp [Value.ownBlock] at hi)); have HWb2 := hid0 (HWb.out.only hoc (fun hi => by rcases hi with hi | hi; omega; simp [Value.ownBlock] at hi) (fun k hk => by simp [Value.ownBlock] at hk)); have HNc : Hid (∀ k, vc.ownBlock = some k → wb.heap.size ≤ k) := (fun k hk => by rcases hnc k hk with h | h; simp [Value.ownBlock] at h; exact h); obtain ⟨i0, i1, i2⟩ := HLc.out.box; clear hq hrc hoc hnc HLb HWb g0 g1 g2)
    | (go_at_call 23; have hq := HWb2.out; clear HWb2; refine (wrNum_any b hb _ _ _ _ hq (by simp)).mono ?_; rintro e wd ⟨rfl, vd, hrd, hod, hnd⟩; rw [List.nil_append] at hrd; have HWd := hid0 hrd; have HLd := hid0 (HLc.out.only hod (fun i hi => by rcases hi with rfl | hi; omega; simp [Value.ownBlock] at hi)); have HWc2 := hid0 (HWc.out.only hod (fun hi => by rcases hi with hi | hi; omega; simp [Value.ownBlock] at hi) (fun k hk hi => by have := HNc.out k hk; rcases hi with hi | hi; omega; simp [Value.ownBlock] at hi)); obtain ⟨j0, j1, j2⟩ := HLd.out.box; clear hq hrd hod hnd HLc HWc i0 i1 i2)
    | (go_at_call 24; have hq := HWc2.out; clear HWc2; refine (wrBytes_any _ _ _ _ hq (by have := (form_length 9 a).2; omega)).mono ?_; rintro e we ⟨ve, rfl, hoe, hbe⟩; have hcA := toString_any hoe.bytesAt; rw [← HpS.out] at hcA; have HLe := hid0 (HLd.out.next hbe); have HWd2 := hid0 (HWd.out.below hbe); clear hq hoe hbe HLd HWd j0 j1 j2)
    | (go_at_call 24; have hq := HWd2.out; clear HWd2; refine (wrBytes_any _ _ _ _ hq (by have := (form_length 9 b).2; omega)).mono ?_; rintro e wf ⟨vf, rfl, hof, hbf⟩; have hcB := toString_any hof.bytesAt; rw [← HqS.out] at hcB; have HLf := hid0 (HLe.out.next hbf); obtain ⟨l0, l1, l2⟩ := HLf.out.box; clear hq hof hbf HLe hcA)
    | fail)
  all_goals first
    | (go_ret; exact ⟨rfl, HLf.out.bel⟩)
    | (go_ret; refine ⟨congrArg (fun x => Ending.returned (.bool x)) (ne_bool ?_), HLf.out.bel⟩; assumption)
    | (exfalso; refine absurd (HB.out ?_) ?_ <;> assumption)
    | (exfalso; refine absurd (Nat.le_of_eq (HZ.out ?_)) ?_ <;> assumption)
set_option maxRecDepth 10000 in
set_option maxHeartbeats 3200000 in
theorem one_bad_pp (P : ByteArray) (a : Nat) (ha : a < 9223372036854775808) (b : Nat) (hb : b < 9223372036854775808) (pe pa ps pf : Addr) (w : World) (hP : P.size ≤ 140737488351232) (ht : TabAt w) (hE : Errs w pa ps pf)
    (hr : rdVal (.iface 85 (.pointer (some ps))) (.iface 85 (.pointer (some pf))) (num P.data.toList) = .tuple #[.int .i64 0, .iface 85 (.pointer (some pe))]) (hr2 : rdRest P.data.toList (num P.data.toList) = P.data.toList) :
    Calls Tryd.prog 7 #[.agg #[.string P, .int .i64 (a : Int), .int .i64 (b : Int)]] w fun e w' => e = .returned (.bool true) ∧ Below w.heap.size w w' := by
  have HE := hid0 hE
  have HR1 := hid0 hr
  have HR2 := hid0 hr2
  have HL1 : Hid (Later w w.heap.size (.string P) (.int .i64 (a : Int)) (.int .i64 (b : Int)) (w.alloc (.cells #[.string P, .int .i64 (a : Int), .int .i64 (b : Int)] 45))) := Later.start ht
  clear ht hE hr hr2
  go_enter Tryd.func7, Tryd.ntmps7
  go_wp2_with (first
    | (go_at_call 17; have hq := HL1.out; clear HL1; refine (known_any _ hq.tab).mono ?_; rintro e w2 ⟨rfl, hb2⟩; have HL2 := hid0 (hq.next hb2); obtain ⟨c0, c1, c2⟩ := HL2.out.box; clear hq hb2)
    | (go_at_call 13; have hq := HL2.out; clear HL2; refine (kitBytes_any P _ _ (by omega) (Nat.le_refl _)).mono ?_; rintro e w3 ⟨v3, rfl, ho3, hb3⟩; have HL3 := hid0 (hq.next hb3); have HO3 := hid0 ho3; clear hq hb3 ho3 c0 c1 c2)
    | (go_at_call 19; have hq := HL3.out; clear HL3; refine (newReader_any P.data.toList _ _ (by simp; omega) HO3.out.bytesAt HO3.out.inMem).mono ?_; rintro e w4 ⟨R, v4, rfl, hR4, hv4, hrd4, hb4⟩; have HL4 := hid0 (hq.next hb4); have HR4 := hid0 hrd4; have hRn : w.heap.size < R := Nat.lt_of_lt_of_le hq.lt hR4; clear hq hb4 hrd4 hv4 HO3 hR4)
    | (go_at_call 20; have hq := HL4.out; clear HL4; refine (newWriter_any _).mono ?_; rintro e w5 ⟨rfl, hw5⟩; have HL5 : Hid (Later w w.heap.size (.string P) (.int .i64 (a : Int)) (.int .i64 (b : Int)) w5) := (by rw [hw5]; exact hq.next (alloc_below _ _)); have HR5 : Hid (Rd w5 R v4 P.data.toList) := (by rw [hw5]; exact HR4.out.later (alloc_below _ _)); have HW5 : Hid (Wr w5 w4.heap.size (.slice none 0 0) []) := (by rw [hw5]; exact wr_new w4); have hRB : R < w4.heap.size := HR4.out.lt; clear hq hw5 HR4)
    | (go_at_call 21; have hq := HR5.out; clear HR5; have he5 := HE.out.at HL5.out; have hm := rdNum_any R v4 P.data.toList _ ps pf (by simp; omega) hq he5.short he5.form; rw [HR1.out, HR2.out] at hm; refine hm.mono ?_; clear hm he5; rintro e w6 ⟨rfl, v6, hrd6, ho6, hn6⟩; have HR6 := hid0 hrd6; have HL6 := hid0 (HL5.out.only ho6 (fun i hi => by omega)); have HW6 := hid0 (HW5.out.only ho6 (by omega) (fun k hk => by simp [Value.ownBlock] at hk)); obtain ⟨c0, c1, c2⟩ := HL6.out.box; clear hrd6 ho6 hn6 hq HL5 HW5)
    | (go_at_call 22; have hm := rdLeft_any R _ _ _ HR6.out; rw [show P.data.toList.length = P.size by simp] at hm; refine hm.mono ?_; clear hm; rintro e w7 ⟨rfl, rfl⟩)
    | fail)
  have HLq := HL6
  clear HL6 HR6 HW6
  obtain ⟨pS, hpS⟩ : ∃ s : ByteArray, s = ⟨(form 9 a).toArray⟩ := ⟨_, rfl⟩
  obtain ⟨qS, hqS⟩ : ∃ s : ByteArray, s = ⟨(form 9 b).toArray⟩ := ⟨_, rfl⟩
  have hps1 : 1 ≤ pS.size := by rw [hpS]; exact (form_length 9 a).1
  have hd1 : decide ((1 : Int) ≤ (pS.size : Int)) = true := by simp; omega
  have hps2 : pS.size ≤ 10 := by rw [hpS]; exact (form_length 9 a).2
  have hqs2 : qS.size ≤ 10 := by rw [hqS]; exact (form_length 9 b).2
  have HB := hid0 (begins_eq a b ha hb pS qS hpS hqS)
  have HZ : Hid ((a : Int) = (b : Int) → pS.size = qS.size) := fun e => by rw [hpS, hqS, show a = b by omega]
  have HpS := hid0 hpS
  have HqS := hid0 hqS
  clear hpS hqS
  go_wp2_with (first
    | (go_at_call 20; have hq := HLq.out; clear HLq; refine (newWriter_any _).mono ?_; rintro e wa ⟨rfl, hwa⟩; have HLa : Hid (Later w w.heap.size (.string P) (.int .i64 (a : Int)) (.int .i64 (b : Int)) wa) := (by rw [hwa]; exact hq.next (alloc_below _ _)); have HWa : Hid (Wr wa _ (.slice none 0 0) []) := (by rw [hwa]; exact wr_new _); have hbA := hq.lt; clear hq hwa)
    | (go_at_call 20; have hq := HLa.out; clear HLa; refine (newWriter_any _).mono ?_; rintro e wb ⟨rfl, hwb⟩; have HLb : Hid (Later w w.heap.size (.string P) (.int .i64 (a : Int)) (.int .i64 (b : Int)) wb) := (by rw [hwb]; exact hq.next (alloc_below _ _)); have HWb : Hid (Wr wb wa.heap.size (.slice none 0 0) []) := (by rw [hwb]; exact wr_new wa); have hAB := HWa.out.lt; have HWa2 := hid0 (HWa.out.below (w' := wb) (by rw [hwb]; exact alloc_below _ _)); have hBlt := HWb.out.lt; obtain ⟨g0, g1, g2⟩ := HLb.out.box; clear hq hwb HWa)
    | (go_at_call 23; have hq := HWa2.out; clear HWa2; refine (wrNum_any a ha _ _ _ _ hq (by simp)).mono ?_; rintro e wc ⟨rfl, vc, hrc, hoc, hnc⟩; rw [List.nil_append] at hrc; have HWc := hid0 hrc; have HLc := hid0 (HLb.out.only hoc (fun i hi => by rcases hi with rfl | hi; omega; simp [Value.ownBlock] at hi)); have HWb2 := hid0 (HWb.out.only hoc (fun hi => by rcases hi with hi | hi; omega; simp [Value.ownBlock] at hi) (fun k hk => by simp [Value.ownBlock] at hk)); have HNc : Hid (∀ k, vc.ownBlock = some k → wb.heap.size ≤ k) := (fun k hk => by rcases hnc k hk with h | h; simp [Value.ownBlock] at h; exact h); obtain ⟨i0, i1, i2⟩ := HLc.out.box; clear hq hrc hoc hnc HLb HWb g0 g1 g2)
    | (go_at_call 23; have hq := HWb2.out; clear HWb2; refine (wrNum_any b hb _ _ _ _ hq (by simp)).mono ?_; rintro e wd ⟨rfl, vd, hrd, hod, hnd⟩; rw [List.nil_append] at hrd; have HWd := hid0 hrd; have HLd := hid0 (HLc.out.only hod (fun i hi => by rcases hi with rfl | hi; omega; simp [Value.ownBlock] at hi)); have HWc2 := hid0 (HWc.out.only hod (fun hi => by rcases hi with hi | hi; omega; simp [Value.ownBlock] at hi) (fun k hk hi => by have := HNc.out k hk; rcases hi with hi | hi; omega; simp [Value.ownBlock] at hi)); obtain ⟨j0, j1, j2⟩ := HLd.out.box; clear hq hrd hod hnd HLc HWc i0 i1 i2)
    | (go_at_call 24; have hq := HWc2.out; clear HWc2; refine (wrBytes_any _ _ _ _ hq (by have := (form_length 9 a).2; omega)).mono ?_; rintro e we ⟨ve, rfl, hoe, hbe⟩; have hcA := toString_any hoe.bytesAt; rw [← HpS.out] at hcA; have HLe := hid0 (HLd.out.next hbe); have HWd2 := hid0 (HWd.out.below hbe); clear hq hoe hbe HLd HWd j0 j1 j2)
    | (go_at_call 24; have hq := HWd2.out; clear HWd2; refine (wrBytes_any _ _ _ _ hq (by have := (form_length 9 b).2; omega)).mono ?_; rintro e wf ⟨vf, rfl, hof, hbf⟩; have hcB := toString_any hof.bytesAt; rw [← HqS.out] at hcB; have HLf := hid0 (HLe.out.next hbf); obtain ⟨l0, l1, l2⟩ := HLf.out.box; clear hq hof hbf HLe hcA)
    | fail)
  all_goals first
    | (go_ret; exact ⟨rfl, HLf.out.bel⟩)
    | (go_ret; refine ⟨congrArg (fun x => Ending.returned (.bool x)) (ne_bool ?_), HLf.out.bel⟩; assumption)
    | (exfalso; refine absurd (HB.out ?_) ?_ <;> assumption)
    | (exfalso; refine absurd (Nat.le_of_eq (HZ.out ?_)) ?_ <;> assumption)
set_option maxRecDepth 10000 in
set_option maxHeartbeats 3200000 in
theorem one_ok_pn (P : ByteArray) (a : Nat) (ha : a < 9223372036854775808) (M : Int) (hM : M < 0) (n k left : Nat) (pa ps pf : Addr) (w : World) (hP : P.size ≤ 140737488351232) (ht : TabAt w) (hE : Errs w pa ps pf) (hr : num P.data.toList = .ok n k) (hleft : k + left = P.size) :
    Calls Tryd.prog 7 #[.agg #[.string P, .int .i64 (a : Int), .int .i64 M]] w fun e w' => e = .returned (.bool true) ∧ Below w.heap.size w w' := by
  obtain ⟨hfn, hn63⟩ := num_form _ _ _ hr
  have hstr : (⟨(form 9 n).toArray⟩ : ByteArray) = P.extract 0 k := by
    rw [hfn]; apply ByteArray.ext; rw [ByteArray.data_extract]; apply Array.ext'; simp
  have HS := hid0 hstr
  have HE := hid0 hE
  have HRn := hid0 hr
  have HL1 : Hid (Later w w.heap.size (.string P) (.int .i64 (a : Int)) (.int .i64 M) (w.alloc (.cells #[.string P, .int .i64 (a : Int), .int .i64 M] 45))) := Later.start ht
  have hkk : (P.size : Int) - (left : Int) = (k : Int) := by omega
  have hkw : IntKind.i64.wrap ((P.size : Int) - (left : Int)) = (k : Int) := by rw [hkk]; exact i64_wrap_nat k (by omega)
  clear hkk
  have hk0 : (0 : Int) ≤ (k : Int) := by omega
  have hk1 : (k : Int) ≤ (P.size : Int) := by omega
  clear ht hE hr hfn hstr
  go_enter Tryd.func7, Tryd.ntmps7
  go_wp2_with (first
    | (go_at_call 17; have hq := HL1.out; clear HL1; refine (known_any _ hq.tab).mono ?_; rintro e w2 ⟨rfl, hb2⟩; have HL2 := hid0 (hq.next hb2); obtain ⟨c0, c1, c2⟩ := HL2.out.box; clear hq hb2)
    | (go_at_call 13; have hq := HL2.out; clear HL2; refine (kitBytes_any P _ _ (by omega) (Nat.le_refl _)).mono ?_; rintro e w3 ⟨v3, rfl, ho3, hb3⟩; have HL3 := hid0 (hq.next hb3); have HO3 := hid0 ho3; clear hq hb3 ho3 c0 c1 c2)
    | (go_at_call 19; have hq := HL3.out; clear HL3; refine (newReader_any P.data.toList _ _ (by simp; omega) HO3.out.bytesAt HO3.out.inMem).mono ?_; rintro e w4 ⟨R, v4, rfl, hR4, hv4, hrd4, hb4⟩; have HL4 := hid0 (hq.next hb4); have HR4 := hid0 hrd4; have hRn : w.heap.size < R := Nat.lt_of_lt_of_le hq.lt hR4; clear hq hb4 hrd4 hv4 HO3 hR4)
    | (go_at_call 20; have hq := HL4.out; clear HL4; refine (newWriter_any _).mono ?_; rintro e w5 ⟨rfl, hw5⟩; have HL5 : Hid (Later w w.heap.size (.string P) (.int .i64 (a : Int)) (.int .i64 M) w5) := (by rw [hw5]; exact hq.next (alloc_below _ _)); have HR5 : Hid (Rd w5 R v4 P.data.toList) := (by rw [hw5]; exact HR4.out.later (alloc_below _ _)); have HW5 : Hid (Wr w5 w4.heap.size (.slice none 0 0) []) := (by rw [hw5]; exact wr_new w4); have hRB : R < w4.heap.size := HR4.out.lt; clear hq hw5 HR4)
    | (go_at_call 21; have hq := HR5.out; clear HR5; have he5 := HE.out.at HL5.out; have hm := rdNum_any R v4 P.data.toList _ ps pf (by simp; omega) hq he5.short he5.form; rw [HRn.out, rdVal, rdRest] at hm; refine hm.mono ?_; clear hm he5; rintro e w6 ⟨rfl, v6, hrd6, ho6, hn6⟩; have HR6 := hid0 hrd6; have HL6 := hid0 (HL5.out.only ho6 (fun i hi => by omega)); have HW6 := hid0 (HW5.out.only ho6 (by omega) (fun k hk => by simp [Value.ownBlock] at hk)); obtain ⟨c0, c1, c2⟩ := HL6.out.box; clear hrd6 ho6 hn6 hq HL5 HW5)
    | (go_at_call 22; have hm := rdLeft_any R _ _ _ HR6.out; rw [show (P.data.toList.drop k).length = left by simp; omega] at hm; refine hm.mono ?_; clear hm; rintro e w7 ⟨rfl, rfl⟩)
    | (go_at_call 23; have hq := HW6.out; clear HW6; refine (wrNum_any n hn63 _ _ _ _ hq (by simp)).mono ?_; rintro e w8 ⟨rfl, v8, hr8, ho8, hn8⟩; have HW8 := hid0 hr8; have HL8 := hid0 (HL6.out.only ho8 (fun i hi => by rcases hi with rfl | hi; omega; simp [Value.ownBlock] at hi)); obtain ⟨d0, d1, d2⟩ := HL8.out.box; clear hq hr8 ho8 hn8 HL6 HR6 c0 c1 c2)
    | fail)
  rw [List.nil_append] at HW8
  have HD := hid0 HL8.out.drew
  have HWD : Hid (Wr w8.drew w4.heap.size v8 (form 9 n)) := ⟨HW8.out.blk, HW8.out.own, HW8.out.room⟩
  clear HL8 HW8
  go_region_held (fun w' => w'.cell? ⟨w.heap.size, 0, none⟩ = some (.string P) ∧ w'.cell? ⟨w.heap.size, 1, none⟩ = some (.int .i64 (a : Int)) ∧ w'.cell? ⟨w.heap.size, 2, none⟩ = some (.int .i64 M)) (first | go_keep | exact HL9.out.box)
    (first
    | (go_at_call 24; have hq := HWD.out; clear HWD; refine (wrBytes_any _ _ _ _ hq (by have := (form_length 9 n).2; omega)).mono ?_; rintro e w9 ⟨v9, rfl, ho9, hb9⟩; have HL9 := hid0 (HD.out.next hb9); have hconv := toString_any ho9.bytesAt; rw [HS.out] at hconv; clear hq hb9 ho9 HD))
  have HLq := HL9
  clear HL9
  have hda : decide ((a : Int) < 0) = false := by simp
  have hdb : decide (M < 0) = true := by simpa using hM
  go_wp2_with (first
    | (go_at_call 20; have hq := HLq.out; clear HLq; refine (newWriter_any _).mono ?_; rintro e wa ⟨rfl, hwa⟩; have HLa : Hid (Later w w.heap.size (.string P) (.int .i64 (a : Int)) (.int .i64 M) wa) := (by rw [hwa]; exact hq.next (alloc_below _ _)); have HWa : Hid (Wr wa _ (.slice none 0 0) []) := (by rw [hwa]; exact wr_new _); have hbA := hq.lt; clear hq hwa)
    | (go_at_call 20; have hq := HLa.out; clear HLa; refine (newWriter_any _).mono ?_; rintro e wb ⟨rfl, hwb⟩; have HLb : Hid (Later w w.heap.size (.string P) (.int .i64 (a : Int)) (.int .i64 M) wb) := (by rw [hwb]; exact hq.next (alloc_below _ _)); have HWb : Hid (Wr wb wa.heap.size (.slice none 0 0) []) := (by rw [hwb]; exact wr_new wa); have hAB := HWa.out.lt; have HWa2 := hid0 (HWa.out.below (w' := wb) (by rw [hwb]; exact alloc_below _ _)); have hBlt := HWb.out.lt; obtain ⟨g0, g1, g2⟩ := HLb.out.box; clear hq hwb HWa)
    | (go_at_call 23; have hq := HWa2.out; clear HWa2; refine (wrNum_any a ha _ _ _ _ hq (by simp)).mono ?_; rintro e wc ⟨rfl, vc, hrc, hoc, hnc⟩; rw [List.nil_append] at hrc; have HWc := hid0 hrc; have HLc := hid0 (HLb.out.only hoc (fun i hi => by rcases hi with rfl | hi; omega; simp [Value.ownBlock] at hi)); have HWb2 := hid0 (HWb.out.only hoc (fun hi => by rcases hi with hi | hi; omega; simp [Value.ownBlock] at hi) (fun k hk => by simp [Value.ownBlock] at hk)); have HNc : Hid (∀ k, vc.ownBlock = some k → wb.heap.size ≤ k) := (fun k hk => by rcases hnc k hk with h | h; simp [Value.ownBlock] at h; exact h); obtain ⟨i0, i1, i2⟩ := HLc.out.box; clear hq hrc hoc hnc HLb HWb g0 g1 g2)
    | (go_at_call 23; have hq := HWb2.out; clear HWb2 hq; refine (wrNum_neg M hM _ _ _ (HE.out.at HLc.out).arg).mono ?_; rintro e wd ⟨rfl, rfl⟩; have HLd := HLc; clear HLc; have j0 := i0; have j1 := i1; have j2 := i2)
    | fail)
  go_quiet ((fail))
  go_wp2
  go_ret
  exact ⟨rfl, below_drewN HLd.out.bel _⟩
set_option maxRecDepth 10000 in
set_option maxHeartbeats 3200000 in
theorem one_bad_pn (P : ByteArray) (a : Nat) (ha : a < 9223372036854775808) (M : Int) (hM : M < 0) (pe pa ps pf : Addr) (w : World) (hP : P.size ≤ 140737488351232) (ht : TabAt w) (hE : Errs w pa ps pf)
    (hr : rdVal (.iface 85 (.pointer (some ps))) (.iface 85 (.pointer (some pf))) (num P.data.toList) = .tuple #[.int .i64 0, .iface 85 (.pointer (some pe))]) (hr2 : rdRest P.data.toList (num P.data.toList) = P.data.toList) :
    Calls Tryd.prog 7 #[.agg #[.string P, .int .i64 (a : Int), .int .i64 M]] w fun e w' => e = .returned (.bool true) ∧ Below w.heap.size w w' := by
  have HE := hid0 hE
  have HR1 := hid0 hr
  have HR2 := hid0 hr2
  have HL1 : Hid (Later w w.heap.size (.string P) (.int .i64 (a : Int)) (.int .i64 M) (w.alloc (.cells #[.string P, .int .i64 (a : Int), .int .i64 M] 45))) := Later.start ht
  clear ht hE hr hr2
  go_enter Tryd.func7, Tryd.ntmps7
  go_wp2_with (first
    | (go_at_call 17; have hq := HL1.out; clear HL1; refine (known_any _ hq.tab).mono ?_; rintro e w2 ⟨rfl, hb2⟩; have HL2 := hid0 (hq.next hb2); obtain ⟨c0, c1, c2⟩ := HL2.out.box; clear hq hb2)
    | (go_at_call 13; have hq := HL2.out; clear HL2; refine (kitBytes_any P _ _ (by omega) (Nat.le_refl _)).mono ?_; rintro e w3 ⟨v3, rfl, ho3, hb3⟩; have HL3 := hid0 (hq.next hb3); have HO3 := hid0 ho3; clear hq hb3 ho3 c0 c1 c2)
    | (go_at_call 19; have hq := HL3.out; clear HL3; refine (newReader_any P.data.toList _ _ (by simp; omega) HO3.out.bytesAt HO3.out.inMem).mono ?_; rintro e w4 ⟨R, v4, rfl, hR4, hv4, hrd4, hb4⟩; have HL4 := hid0 (hq.next hb4); have HR4 := hid0 hrd4; have hRn : w.heap.size < R := Nat.lt_of_lt_of_le hq.lt hR4; clear hq hb4 hrd4 hv4 HO3 hR4)
    | (go_at_call 20; have hq := HL4.out; clear HL4; refine (newWriter_any _).mono ?_; rintro e w5 ⟨rfl, hw5⟩; have HL5 : Hid (Later w w.heap.size (.string P) (.int .i64 (a : Int)) (.int .i64 M) w5) := (by rw [hw5]; exact hq.next (alloc_below _ _)); have HR5 : Hid (Rd w5 R v4 P.data.toList) := (by rw [hw5]; exact HR4.out.later (alloc_below _ _)); have HW5 : Hid (Wr w5 w4.heap.size (.slice none 0 0) []) := (by rw [hw5]; exact wr_new w4); have hRB : R < w4.heap.size := HR4.out.lt; clear hq hw5 HR4)
    | (go_at_call 21; have hq := HR5.out; clear HR5; have he5 := HE.out.at HL5.out; have hm := rdNum_any R v4 P.data.toList _ ps pf (by simp; omega) hq he5.short he5.form; rw [HR1.out, HR2.out] at hm; refine hm.mono ?_; clear hm he5; rintro e w6 ⟨rfl, v6, hrd6, ho6, hn6⟩; have HR6 := hid0 hrd6; have HL6 := hid0 (HL5.out.only ho6 (fun i hi => by omega)); have HW6 := hid0 (HW5.out.only ho6 (by omega) (fun k hk => by simp [Value.ownBlock] at hk)); obtain ⟨c0, c1, c2⟩ := HL6.out.box; clear hrd6 ho6 hn6 hq HL5 HW5)
    | (go_at_call 22; have hm := rdLeft_any R _ _ _ HR6.out; rw [show P.data.toList.length = P.size by simp] at hm; refine hm.mono ?_; clear hm; rintro e w7 ⟨rfl, rfl⟩)
    | fail)
  have HLq := HL6
  clear HL6 HR6 HW6
  have hda : decide ((a : Int) < 0) = false := by simp
  have hdb : decide (M < 0) = true := by simpa using hM
  go_wp2_with (first
    | (go_at_call 20; have hq := HLq.out; clear HLq; refine (newWriter_any _).mono ?_; rintro e wa ⟨rfl, hwa⟩; have HLa : Hid (Later w w.heap.size (.string P) (.int .i64 (a : Int)) (.int .i64 M) wa) := (by rw [hwa]; exact hq.next (alloc_below _ _)); have HWa : Hid (Wr wa _ (.slice none 0 0) []) := (by rw [hwa]; exact wr_new _); have hbA := hq.lt; clear hq hwa)
    | (go_at_call 20; have hq := HLa.out; clear HLa; refine (newWriter_any _).mono ?_; rintro e wb ⟨rfl, hwb⟩; have HLb : Hid (Later w w.heap.size (.string P) (.int .i64 (a : Int)) (.int .i64 M) wb) := (by rw [hwb]; exact hq.next (alloc_below _ _)); have HWb : Hid (Wr wb wa.heap.size (.slice none 0 0) []) := (by rw [hwb]; exact wr_new wa); have hAB := HWa.out.lt; have HWa2 := hid0 (HWa.out.below (w' := wb) (by rw [hwb]; exact alloc_below _ _)); have hBlt := HWb.out.lt; obtain ⟨g0, g1, g2⟩ := HLb.out.box; clear hq hwb HWa)
    | (go_at_call 23; have hq := HWa2.out; clear HWa2; refine (wrNum_any a ha _ _ _ _ hq (by simp)).mono ?_; rintro e wc ⟨rfl, vc, hrc, hoc, hnc⟩; rw [List.nil_append] at hrc; have HWc := hid0 hrc; have HLc := hid0 (HLb.out.only hoc (fun i hi => by rcases hi with rfl | hi; omega; simp [Value.ownBlock] at hi)); have HWb2 := hid0 (HWb.out.only hoc (fun hi => by rcases hi with hi | hi; omega; simp [Value.ownBlock] at hi) (fun k hk => by simp [Value.ownBlock] at hk)); have HNc : Hid (∀ k, vc.ownBlock = some k → wb.heap.size ≤ k) := (fun k hk => by rcases hnc k hk with h | h; simp [Value.ownBlock] at h; exact h); obtain ⟨i0, i1, i2⟩ := HLc.out.box; clear hq hrc hoc hnc HLb HWb g0 g1 g2)
    | (go_at_call 23; have hq := HWb2.out; clear HWb2 hq; refine (wrNum_neg M hM _ _ _ (HE.out.at HLc.out).arg).mono ?_; rintro e wd ⟨rfl, rfl⟩; have HLd := HLc; clear HLc; have j0 := i0; have j1 := i1; have j2 := i2)
    | fail)
  go_quiet ((fail))
  go_wp2
  go_ret
  exact ⟨rfl, below_drewN HLd.out.bel _⟩
set_option maxRecDepth 10000 in
set_option maxHeartbeats 3200000 in
theorem one_ok_np (P : ByteArray) (N : Int) (hN : N < 0) (b : Nat) (hb : b < 9223372036854775808) (n k left : Nat) (pa ps pf : Addr) (w : World) (hP : P.size ≤ 140737488351232) (ht : TabAt w) (hE : Errs w pa ps pf) (hr : num P.data.toList = .ok n k) (hleft : k + left = P.size) :
    Calls Tryd.prog 7 #[.agg #[.string P, .int .i64 N, .int .i64 (b : Int)]] w fun e w' => e = .returned (.bool true) ∧ Below w.heap.size w w' := by
  obtain ⟨hfn, hn63⟩ := num_form _ _ _ hr
  have hstr : (⟨(form 9 n).toArray⟩ : ByteArray) = P.extract 0 k := by
    rw [hfn]; apply ByteArray.ext; rw [ByteArray.data_extract]; apply Array.ext'; simp
  have HS := hid0 hstr
  have HE := hid0 hE
  have HRn := hid0 hr
  have HL1 : Hid (Later w w.heap.size (.string P) (.int .i64 N) (.int .i64 (b : Int)) (w.alloc (.cells #[.string P, .int .i64 N, .int .i64 (b : Int)] 45))) := Later.start ht
  have hkk : (P.size : Int) - (left : Int) = (k : Int) := by omega
  have hkw : IntKind.i64.wrap ((P.size : Int) - (left : Int)) = (k : Int) := by rw [hkk]; exact i64_wrap_nat k (by omega)
  clear hkk
  have hk0 : (0 : Int) ≤ (k : Int) := by omega
  have hk1 : (k : Int) ≤ (P.size : Int) := by omega
  clear ht hE hr hfn hstr
  go_enter Tryd.func7, Tryd.ntmps7
  go_wp2_with (first
    | (go_at_call 17; have hq := HL1.out; clear HL1; refine (known_any _ hq.tab).mono ?_; rintro e w2 ⟨rfl, hb2⟩; have HL2 := hid0 (hq.next hb2); obtain ⟨c0, c1, c2⟩ := HL2.out.box; clear hq hb2)
    | (go_at_call 13; have hq := HL2.out; clear HL2; refine (kitBytes_any P _ _ (by omega) (Nat.le_refl _)).mono ?_; rintro e w3 ⟨v3, rfl, ho3, hb3⟩; have HL3 := hid0 (hq.next hb3); have HO3 := hid0 ho3; clear hq hb3 ho3 c0 c1 c2)
    | (go_at_call 19; have hq := HL3.out; clear HL3; refine (newReader_any P.data.toList _ _ (by simp; omega) HO3.out.bytesAt HO3.out.inMem).mono ?_; rintro e w4 ⟨R, v4, rfl, hR4, hv4, hrd4, hb4⟩; have HL4 := hid0 (hq.next hb4); have HR4 := hid0 hrd4; have hRn : w.heap.size < R := Nat.lt_of_lt_of_le hq.lt hR4; clear hq hb4 hrd4 hv4 HO3 hR4)
    | (go_at_call 20; have hq := HL4.out; clear HL4; refine (newWriter_any _).mono ?_; rintro e w5 ⟨rfl, hw5⟩; have HL5 : Hid (Later w w.heap.size (.string P) (.int .i64 N) (.int .i64 (b : Int)) w5) := (by rw [hw5]; exact hq.next (alloc_below _ _)); have HR5 : Hid (Rd w5 R v4 P.data.toList) := (by rw [hw5]; exact HR4.out.later (alloc_below _ _)); have HW5 : Hid (Wr w5 w4.heap.size (.slice none 0 0) []) := (by rw [hw5]; exact wr_new w4); have hRB : R < w4.heap.size := HR4.out.lt; clear hq hw5 HR4)
    | (go_at_call 21; have hq := HR5.out; clear HR5; have he5 := HE.out.at HL5.out; have hm := rdNum_any R v4 P.data.toList _ ps pf (by simp; omega) hq he5.short he5.form; rw [HRn.out, rdVal, rdRest] at hm; refine hm.mono ?_; clear hm he5; rintro e w6 ⟨rfl, v6, hrd6, ho6, hn6⟩; have HR6 := hid0 hrd6; have HL6 := hid0 (HL5.out.only ho6 (fun i hi => by omega)); have HW6 := hid0 (HW5.out.only ho6 (by omega) (fun k hk => by simp [Value.ownBlock] at hk)); obtain ⟨c0, c1, c2⟩ := HL6.out.box; clear hrd6 ho6 hn6 hq HL5 HW5)
    | (go_at_call 22; have hm := rdLeft_any R _ _ _ HR6.out; rw [show (P.data.toList.drop k).length = left by simp; omega] at hm; refine hm.mono ?_; clear hm; rintro e w7 ⟨rfl, rfl⟩)
    | (go_at_call 23; have hq := HW6.out; clear HW6; refine (wrNum_any n hn63 _ _ _ _ hq (by simp)).mono ?_; rintro e w8 ⟨rfl, v8, hr8, ho8, hn8⟩; have HW8 := hid0 hr8; have HL8 := hid0 (HL6.out.only ho8 (fun i hi => by rcases hi with rfl | hi; omega; simp [Value.ownBlock] at hi)); obtain ⟨d0, d1, d2⟩ := HL8.out.box; clear hq hr8 ho8 hn8 HL6 HR6 c0 c1 c2)
    | fail)
  rw [List.nil_append] at HW8
  have HD := hid0 HL8.out.drew
  have HWD : Hid (Wr w8.drew w4.heap.size v8 (form 9 n)) := ⟨HW8.out.blk, HW8.out.own, HW8.out.room⟩
  clear HL8 HW8
  go_region_held (fun w' => w'.cell? ⟨w.heap.size, 0, none⟩ = some (.string P) ∧ w'.cell? ⟨w.heap.size, 1, none⟩ = some (.int .i64 N) ∧ w'.cell? ⟨w.heap.size, 2, none⟩ = some (.int .i64 (b : Int))) (first | go_keep | exact HL9.out.box)
    (first
    | (go_at_call 24; have hq := HWD.out; clear HWD; refine (wrBytes_any _ _ _ _ hq (by have := (form_length 9 n).2; omega)).mono ?_; rintro e w9 ⟨v9, rfl, ho9, hb9⟩; have HL9 := hid0 (HD.out.next hb9); have hconv := toString_any ho9.bytesAt; rw [HS.out] at hconv; clear hq hb9 ho9 HD))
  have HLq := HL9
  clear HL9
  have hda : decide (N < 0) = true := by simpa using hN
  have hdb : decide ((b : Int) < 0) = false := by simp
  go_wp2_with (first
    | (go_at_call 20; have hq := HLq.out; clear HLq; refine (newWriter_any _).mono ?_; rintro e wa ⟨rfl, hwa⟩; have HLa : Hid (Later w w.heap.size (.string P) (.int .i64 N) (.int .i64 (b : Int)) wa) := (by rw [hwa]; exact hq.next (alloc_below _ _)); have HWa : Hid (Wr wa _ (.slice none 0 0) []) := (by rw [hwa]; exact wr_new _); have hbA := hq.lt; clear hq hwa)
    | (go_at_call 20; have hq := HLa.out; clear HLa; refine (newWriter_any _).mono ?_; rintro e wb ⟨rfl, hwb⟩; have HLb : Hid (Later w w.heap.size (.string P) (.int .i64 N) (.int .i64 (b : Int)) wb) := (by rw [hwb]; exact hq.next (alloc_below _ _)); have HWb : Hid (Wr wb wa.heap.size (.slice none 0 0) []) := (by rw [hwb]; exact wr_new wa); have hAB := HWa.out.lt; have HWa2 := hid0 (HWa.out.below (w' := wb) (by rw [hwb]; exact alloc_below _ _)); have hBlt := HWb.out.lt; obtain ⟨g0, g1, g2⟩ := HLb.out.box; clear hq hwb HWa)
    | (go_at_call 23; have hq := HWa2.out; clear HWa2 hq; refine (wrNum_neg N hN _ _ _ (HE.out.at HLb.out).arg).mono ?_; rintro e wc ⟨rfl, rfl⟩; have HLc := HLb; have HWb2 := HWb; clear HLb HWb; have i0 := g0; have i1 := g1; have i2 := g2)
    | (go_at_call 23; have hq := HWb2.out; clear HWb2; refine (wrNum_any b hb _ _ _ _ hq (by simp)).mono ?_; rintro e wd ⟨rfl, vd, hrd, hod, hnd⟩; have HLd := hid0 (HLc.out.only hod (fun i hi => by rcases hi with rfl | hi; omega; simp [Value.ownBlock] at hi)); obtain ⟨j0, j1, j2⟩ := HLd.out.box; clear hq hrd hod hnd HLc i0 i1 i2)
    | fail)
  go_quiet ((fail))
  go_wp2
  go_ret
  exact ⟨rfl, below_drewN HLd.out.bel _⟩
set_option maxRecDepth 10000 in
set_option maxHeartbeats 3200000 in
theorem one_bad_np (P : ByteArray) (N : Int) (hN : N < 0) (b : Nat) (hb : b < 9223372036854775808) (pe pa ps pf : Addr) (w : World) (hP : P.size ≤ 140737488351232) (ht : TabAt w) (hE : Errs w pa ps pf)
    (hr : rdVal (.iface 85 (.pointer (some ps))) (.iface 85 (.pointer (some pf))) (num P.data.toList) = .tuple #[.int .i64 0, .iface 85 (.pointer (some pe))]) (hr2 : rdRest P.data.toList (num P.data.toList) = P.data.toList) :
    Calls Tryd.prog 7 #[.agg #[.string P, .int .i64 N, .int .i64 (b : Int)]] w fun e w' => e = .returned (.bool true) ∧ Below w.heap.size w w' := by
  have HE := hid0 hE
  have HR1 := hid0 hr
  have HR2 := hid0 hr2
  have HL1 : Hid (Later w w.heap.size (.string P) (.int .i64 N) (.int .i64 (b : Int)) (w.alloc (.cells #[.string P, .int .i64 N, .int .i64 (b : Int)] 45))) := Later.start ht
  clear ht hE hr hr2
  go_enter Tryd.func7, Tryd.ntmps7
  go_wp2_with (first
    | (go_at_call 17; have hq := HL1.out; clear HL1; refine (known_any _ hq.tab).mono ?_; rintro e w2 ⟨rfl, hb2⟩; have HL2 := hid0 (hq.next hb2); obtain ⟨c0, c1, c2⟩ := HL2.out.box; clear hq hb2)
    | (go_at_call 13; have hq := HL2.out; clear HL2; refine (kitBytes_any P _ _ (by omega) (Nat.le_refl _)).mono ?_; rintro e w3 ⟨v3, rfl, ho3, hb3⟩; have HL3 := hid0 (hq.next hb3); have HO3 := hid0 ho3; clear hq hb3 ho3 c0 c1 c2)
    | (go_at_call 19; have hq := HL3.out; clear HL3; refine (newReader_any P.data.toList _ _ (by simp; omega) HO3.out.bytesAt HO3.out.inMem).mono ?_; rintro e w4 ⟨R, v4, rfl, hR4, hv4, hrd4, hb4⟩; have HL4 := hid0 (hq.next hb4); have HR4 := hid0 hrd4; have hRn : w.heap.size < R := Nat.lt_of_lt_of_le hq.lt hR4; clear hq hb4 hrd4 hv4 HO3 hR4)
    | (go_at_call 20; have hq := HL4.out; clear HL4; refine (newWriter_any _).mono ?_; rintro e w5 ⟨rfl, hw5⟩; have HL5 : Hid (Later w w.heap.size (.string P) (.int .i64 N) (.int .i64 (b : Int)) w5) := (by rw [hw5]; exact hq.next (alloc_below _ _)); have HR5 : Hid (Rd w5 R v4 P.data.toList) := (by rw [hw5]; exact HR4.out.later (alloc_below _ _)); have HW5 : Hid (Wr w5 w4.heap.size (.slice none 0 0) []) := (by rw [hw5]; exact wr_new w4); have hRB : R < w4.heap.size := HR4.out.lt; clear hq hw5 HR4)
    | (go_at_call 21; have hq := HR5.out; clear HR5; have he5 := HE.out.at HL5.out; have hm := rdNum_any R v4 P.data.toList _ ps pf (by simp; omega) hq he5.short he5.form; rw [HR1.out, HR2.out] at hm; refine hm.mono ?_; clear hm he5; rintro e w6 ⟨rfl, v6, hrd6, ho6, hn6⟩; have HR6 := hid0 hrd6; have HL6 := hid0 (HL5.out.only ho6 (fun i hi => by omega)); have HW6 := hid0 (HW5.out.only ho6 (by omega) (fun k hk => by simp [Value.ownBlock] at hk)); obtain ⟨c0, c1, c2⟩ := HL6.out.box; clear hrd6 ho6 hn6 hq HL5 HW5)
    | (go_at_call 22; have hm := rdLeft_any R _ _ _ HR6.out; rw [show P.data.toList.length = P.size by simp] at hm; refine hm.mono ?_; clear hm; rintro e w7 ⟨rfl, rfl⟩)
    | fail)
  have HLq := HL6
  clear HL6 HR6 HW6
  have hda : decide (N < 0) = true := by simpa using hN
  have hdb : decide ((b : Int) < 0) = false := by simp
  go_wp2_with (first
    | (go_at_call 20; have hq := HLq.out; clear HLq; refine (newWriter_any _).mono ?_; rintro e wa ⟨rfl, hwa⟩; have HLa : Hid (Later w w.heap.size (.string P) (.int .i64 N) (.int .i64 (b : Int)) wa) := (by rw [hwa]; exact hq.next (alloc_below _ _)); have HWa : Hid (Wr wa _ (.slice none 0 0) []) := (by rw [hwa]; exact wr_new _); have hbA := hq.lt; clear hq hwa)
    | (go_at_call 20; have hq := HLa.out; clear HLa; refine (newWriter_any _).mono ?_; rintro e wb ⟨rfl, hwb⟩; have HLb : Hid (Later w w.heap.size (.string P) (.int .i64 N) (.int .i64 (b : Int)) wb) := (by rw [hwb]; exact hq.next (alloc_below _ _)); have HWb : Hid (Wr wb wa.heap.size (.slice none 0 0) []) := (by rw [hwb]; exact wr_new wa); have hAB := HWa.out.lt; have HWa2 := hid0 (HWa.out.below (w' := wb) (by rw [hwb]; exact alloc_below _ _)); have hBlt := HWb.out.lt; obtain ⟨g0, g1, g2⟩ := HLb.out.box; clear hq hwb HWa)
    | (go_at_call 23; have hq := HWa2.out; clear HWa2 hq; refine (wrNum_neg N hN _ _ _ (HE.out.at HLb.out).arg).mono ?_; rintro e wc ⟨rfl, rfl⟩; have HLc := HLb; have HWb2 := HWb; clear HLb HWb; have i0 := g0; have i1 := g1; have i2 := g2)
    | (go_at_call 23; have hq := HWb2.out; clear HWb2; refine (wrNum_any b hb _ _ _ _ hq (by simp)).mono ?_; rintro e wd ⟨rfl, vd, hrd, hod, hnd⟩; have HLd := hid0 (HLc.out.only hod (fun i hi => by rcases hi with rfl | hi; omega; simp [Value.ownBlock] at hi)); obtain ⟨j0, j1, j2⟩ := HLd.out.box; clear hq hrd hod hnd HLc i0 i1 i2)
    | fail)
  go_quiet ((fail))
  go_wp2
  go_ret
  exact ⟨rfl, below_drewN HLd.out.bel _⟩
set_option maxRecDepth 10000 in
set_option maxHeartbeats 3200000 in
theorem one_ok_nn (P : ByteArray) (N : Int) (hN : N < 0) (M : Int) (hM : M < 0) (n k left : Nat) (pa ps pf : Addr) (w : World) (hP : P.size ≤ 140737488351232) (ht : TabAt w) (hE : Errs w pa ps pf) (hr : num P.data.toList = .ok n k) (hleft : k + left = P.size) :
    Calls Tryd.prog 7 #[.agg #[.string P, .int .i64 N, .int .i64 M]] w fun e w' => e = .returned (.bool true) ∧ Below w.heap.size w w' := by
  obtain ⟨hfn, hn63⟩ := num_form _ _ _ hr
  have hstr : (⟨(form 9 n).toArray⟩ : ByteArray) = P.extract 0 k := by
    rw [hfn]; apply ByteArray.ext; rw [ByteArray.data_extract]; apply Array.ext'; simp
  have HS := hid0 hstr
  have HE := hid0 hE
  have HRn := hid0 hr
  have HL1 : Hid (Later w w.heap.size (.string P) (.int .i64 N) (.int .i64 M) (w.alloc (.cells #[.string P, .int .i64 N, .int .i64 M] 45))) := Later.start ht
  have hkk : (P.size : Int) - (left : Int) = (k : Int) := by omega
  have hkw : IntKind.i64.wrap ((P.size : Int) - (left : Int)) = (k : Int) := by rw [hkk]; exact i64_wrap_nat k (by omega)
  clear hkk
  have hk0 : (0 : Int) ≤ (k : Int) := by omega
  have hk1 : (k : Int) ≤ (P.size : Int) := by omega
  clear ht hE hr hfn hstr
  go_enter Tryd.func7, Tryd.ntmps7
  go_wp2_with (first
    | (go_at_call 17; have hq := HL1.out; clear HL1; refine (known_any _ hq.tab).mono ?_; rintro e w2 ⟨rfl, hb2⟩; have HL2 := hid0 (hq.next hb2); obtain ⟨c0, c1, c2⟩ := HL2.out.box; clear hq hb2)
    | (go_at_call 13; have hq := HL2.out; clear HL2; refine (kitBytes_any P _ _ (by omega) (Nat.le_refl _)).mono ?_; rintro e w3 ⟨v3, rfl, ho3, hb3⟩; have HL3 := hid0 (hq.next hb3); have HO3 := hid0 ho3; clear hq hb3 ho3 c0 c1 c2)
    | (go_at_call 19; have hq := HL3.out; clear HL3; refine (newReader_any P.data.toList _ _ (by simp; omega) HO3.out.bytesAt HO3.out.inMem).mono ?_; rintro e w4 ⟨R, v4, rfl, hR4, hv4, hrd4, hb4⟩; have HL4 := hid0 (hq.next hb4); have HR4 := hid0 hrd4; have hRn : w.heap.size < R := Nat.lt_of_lt_of_le hq.lt hR4; clear hq hb4 hrd4 hv4 HO3 hR4)
    | (go_at_call 20; have hq := HL4.out; clear HL4; refine (newWriter_any _).mono ?_; rintro e w5 ⟨rfl, hw5⟩; have HL5 : Hid (Later w w.heap.size (.string P) (.int .i64 N) (.int .i64 M) w5) := (by rw [hw5]; exact hq.next (alloc_below _ _)); have HR5 : Hid (Rd w5 R v4 P.data.toList) := (by rw [hw5]; exact HR4.out.later (alloc_below _ _)); have HW5 : Hid (Wr w5 w4.heap.size (.slice none 0 0) []) := (by rw [hw5]; exact wr_new w4); have hRB : R < w4.heap.size := HR4.out.lt; clear hq hw5 HR4)
    | (go_at_call 21; have hq := HR5.out; clear HR5; have he5 := HE.out.at HL5.out; have hm := rdNum_any R v4 P.data.toList _ ps pf (by simp; omega) hq he5.short he5.form; rw [HRn.out, rdVal, rdRest] at hm; refine hm.mono ?_; clear hm he5; rintro e w6 ⟨rfl, v6, hrd6, ho6, hn6⟩; have HR6 := hid0 hrd6; have HL6 := hid0 (HL5.out.only ho6 (fun i hi => by omega)); have HW6 := hid0 (HW5.out.only ho6 (by omega) (fun k hk => by simp [Value.ownBlock] at hk)); obtain ⟨c0, c1, c2⟩ := HL6.out.box; clear hrd6 ho6 hn6 hq HL5 HW5)
    | (go_at_call 22; have hm := rdLeft_any R _ _ _ HR6.out; rw [show (P.data.toList.drop k).length = left by simp; omega] at hm; refine hm.mono ?_; clear hm; rintro e w7 ⟨rfl, rfl⟩)
    | (go_at_call 23; have hq := HW6.out; clear HW6; refine (wrNum_any n hn63 _ _ _ _ hq (by simp)).mono ?_; rintro e w8 ⟨rfl, v8, hr8, ho8, hn8⟩; have HW8 := hid0 hr8; have HL8 := hid0 (HL6.out.only ho8 (fun i hi => by rcases hi with rfl | hi; omega; simp [Value.ownBlock] at hi)); obtain ⟨d0, d1, d2⟩ := HL8.out.box; clear hq hr8 ho8 hn8 HL6 HR6 c0 c1 c2)
    | fail)
  rw [List.nil_append] at HW8
  have HD := hid0 HL8.out.drew
  have HWD : Hid (Wr w8.drew w4.heap.size v8 (form 9 n)) := ⟨HW8.out.blk, HW8.out.own, HW8.out.room⟩
  clear HL8 HW8
  go_region_held (fun w' => w'.cell? ⟨w.heap.size, 0, none⟩ = some (.string P) ∧ w'.cell? ⟨w.heap.size, 1, none⟩ = some (.int .i64 N) ∧ w'.cell? ⟨w.heap.size, 2, none⟩ = some (.int .i64 M)) (first | go_keep | exact HL9.out.box)
    (first
    | (go_at_call 24; have hq := HWD.out; clear HWD; refine (wrBytes_any _ _ _ _ hq (by have := (form_length 9 n).2; omega)).mono ?_; rintro e w9 ⟨v9, rfl, ho9, hb9⟩; have HL9 := hid0 (HD.out.next hb9); have hconv := toString_any ho9.bytesAt; rw [HS.out] at hconv; clear hq hb9 ho9 HD))
  have HLq := HL9
  clear HL9
  have hda : decide (N < 0) = true := by simpa using hN
  have hdb : decide (M < 0) = true := by simpa using hM
  go_wp2_with (first
    | (go_at_call 20; have hq := HLq.out; clear HLq; refine (newWriter_any _).mono ?_; rintro e wa ⟨rfl, hwa⟩; have HLa : Hid (Later w w.heap.size (.string P) (.int .i64 N) (.int .i64 M) wa) := (by rw [hwa]; exact hq.next (alloc_below _ _)); have HWa : Hid (Wr wa _ (.slice none 0 0) []) := (by rw [hwa]; exact wr_new _); have hbA := hq.lt; clear hq hwa)
    | (go_at_call 20; have hq := HLa.out; clear HLa; refine (newWriter_any _).mono ?_; rintro e wb ⟨rfl, hwb⟩; have HLb : Hid (Later w w.heap.size (.string P) (.int .i64 N) (.int .i64 M) wb) := (by rw [hwb]; exact hq.next (alloc_below _ _)); have HWb : Hid (Wr wb wa.heap.size (.slice none 0 0) []) := (by rw [hwb]; exact wr_new wa); have hAB := HWa.out.lt; have HWa2 := hid0 (HWa.out.below (w' := wb) (by rw [hwb]; exact alloc_below _ _)); have hBlt := HWb.out.lt; obtain ⟨g0, g1, g2⟩ := HLb.out.box; clear hq hwb HWa)
    | (go_at_call 23; have hq := HWa2.out; clear HWa2 hq; refine (wrNum_neg N hN _ _ _ (HE.out.at HLb.out).arg).mono ?_; rintro e wc ⟨rfl, rfl⟩; have HLc := HLb; have HWb2 := HWb; clear HLb HWb; have i0 := g0; have i1 := g1; have i2 := g2)
    | (go_at_call 23; have hq := HWb2.out; clear HWb2 hq; refine (wrNum_neg M hM _ _ _ (HE.out.at HLc.out).arg).mono ?_; rintro e wd ⟨rfl, rfl⟩; have HLd := HLc; clear HLc; have j0 := i0; have j1 := i1; have j2 := i2)
    | fail)
  go_quiet ((fail))
  go_wp2
  go_ret
  exact ⟨rfl, below_drewN HLd.out.bel _⟩
set_option maxRecDepth 10000 in
set_option maxHeartbeats 3200000 in
theorem one_bad_nn (P : ByteArray) (N : Int) (hN : N < 0) (M : Int) (hM : M < 0) (pe pa ps pf : Addr) (w : World) (hP : P.size ≤ 140737488351232) (ht : TabAt w) (hE : Errs w pa ps pf)
    (hr : rdVal (.iface 85 (.pointer (some ps))) (.iface 85 (.pointer (some pf))) (num P.data.toList) = .tuple #[.int .i64 0, .iface 85 (.pointer (some pe))]) (hr2 : rdRest P.data.toList (num P.data.toList) = P.data.toList) :
    Calls Tryd.prog 7 #[.agg #[.string P, .int .i64 N, .int .i64 M]] w fun e w' => e = .returned (.bool true) ∧ Below w.heap.size w w' := by
  have HE := hid0 hE
  have HR1 := hid0 hr
  have HR2 := hid0 hr2
  have HL1 : Hid (Later w w.heap.size (.string P) (.int .i64 N) (.int .i64 M) (w.alloc (.cells #[.string P, .int .i64 N, .int .i64 M] 45))) := Later.start ht
  clear ht hE hr hr2
  go_enter Tryd.func7, Tryd.ntmps7
  go_wp2_with (first
    | (go_at_call 17; have hq := HL1.out; clear HL1; refine (known_any _ hq.tab).mono ?_; rintro e w2 ⟨rfl, hb2⟩; have HL2 := hid0 (hq.next hb2); obtain ⟨c0, c1, c2⟩ := HL2.out.box; clear hq hb2)
    | (go_at_call 13; have hq := HL2.out; clear HL2; refine (kitBytes_any P _ _ (by omega) (Nat.le_refl _)).mono ?_; rintro e w3 ⟨v3, rfl, ho3, hb3⟩; have HL3 := hid0 (hq.next hb3); have HO3 := hid0 ho3; clear hq hb3 ho3 c0 c1 c2)
    | (go_at_call 19; have hq := HL3.out; clear HL3; refine (newReader_any P.data.toList _ _ (by simp; omega) HO3.out.bytesAt HO3.out.inMem).mono ?_; rintro e w4 ⟨R, v4, rfl, hR4, hv4, hrd4, hb4⟩; have HL4 := hid0 (hq.next hb4); have HR4 := hid0 hrd4; have hRn : w.heap.size < R := Nat.lt_of_lt_of_le hq.lt hR4; clear hq hb4 hrd4 hv4 HO3 hR4)
    | (go_at_call 20; have hq := HL4.out; clear HL4; refine (newWriter_any _).mono ?_; rintro e w5 ⟨rfl, hw5⟩; have HL5 : Hid (Later w w.heap.size (.string P) (.int .i64 N) (.int .i64 M) w5) := (by rw [hw5]; exact hq.next (alloc_below _ _)); have HR5 : Hid (Rd w5 R v4 P.data.toList) := (by rw [hw5]; exact HR4.out.later (alloc_below _ _)); have HW5 : Hid (Wr w5 w4.heap.size (.slice none 0 0) []) := (by rw [hw5]; exact wr_new w4); have hRB : R < w4.heap.size := HR4.out.lt; clear hq hw5 HR4)
    | (go_at_call 21; have hq := HR5.out; clear HR5; have he5 := HE.out.at HL5.out; have hm := rdNum_any R v4 P.data.toList _ ps pf (by simp; omega) hq he5.short he5.form; rw [HR1.out, HR2.out] at hm; refine hm.mono ?_; clear hm he5; rintro e w6 ⟨rfl, v6, hrd6, ho6, hn6⟩; have HR6 := hid0 hrd6; have HL6 := hid0 (HL5.out.only ho6 (fun i hi => by omega)); have HW6 := hid0 (HW5.out.only ho6 (by omega) (fun k hk => by simp [Value.ownBlock] at hk)); obtain ⟨c0, c1, c2⟩ := HL6.out.box; clear hrd6 ho6 hn6 hq HL5 HW5)
    | (go_at_call 22; have hm := rdLeft_any R _ _ _ HR6.out; rw [show P.data.toList.length = P.size by simp] at hm; refine hm.mono ?_; clear hm; rintro e w7 ⟨rfl, rfl⟩)
    | fail)
  have HLq := HL6
  clear HL6 HR6 HW6
  have hda : decide (N < 0) = true := by simpa using hN
  have hdb : decide (M < 0) = true := by simpa using hM
  go_wp2_with (first
    | (go_at_call 20; have hq := HLq.out; clear HLq; refine (newWriter_any _).mono ?_; rintro e wa ⟨rfl, hwa⟩; have HLa : Hid (Later w w.heap.size (.string P) (.int .i64 N) (.int .i64 M) wa) := (by rw [hwa]; exact hq.next (alloc_below _ _)); have HWa : Hid (Wr wa _ (.slice none 0 0) []) := (by rw [hwa]; exact wr_new _); have hbA := hq.lt; clear hq hwa)
    | (go_at_call 20; have hq := HLa.out; clear HLa; refine (newWriter_any _).mono ?_; rintro e wb ⟨rfl, hwb⟩; have HLb : Hid (Later w w.heap.size (.string P) (.int .i64 N) (.int .i64 M) wb) := (by rw [hwb]; exact hq.next (alloc_below _ _)); have HWb : Hid (Wr wb wa.heap.size (.slice none 0 0) []) := (by rw [hwb]; exact wr_new wa); have hAB := HWa.out.lt; have HWa2 := hid0 (HWa.out.below (w' := wb) (by rw [hwb]; exact alloc_below _ _)); have hBlt := HWb.out.lt; obtain ⟨g0, g1, g2⟩ := HLb.out.box; clear hq hwb HWa)
    | (go_at_call 23; have hq := HWa2.out; clear HWa2 hq; refine (wrNum_neg N hN _ _ _ (HE.out.at HLb.out).arg).mono ?_; rintro e wc ⟨rfl, rfl⟩; have HLc := HLb; have HWb2 := HWb; clear HLb HWb; have i0 := g0; have i1 := g1; have i2 := g2)
    | (go_at_call 23; have hq := HWb2.out; clear HWb2 hq; refine (wrNum_neg M hM _ _ _ (HE.out.at HLc.out).arg).mono ?_; rintro e wd ⟨rfl, rfl⟩; have HLd := HLc; clear HLc; have j0 := i0; have j1 := i1; have j2 := i2)
    | fail)
  go_quiet ((fail))
  go_wp2
  go_ret
  exact ⟨rfl, below_drewN HLd.out.bel _⟩
end Go.Proofs.YtageiccempcbaaaDoor
