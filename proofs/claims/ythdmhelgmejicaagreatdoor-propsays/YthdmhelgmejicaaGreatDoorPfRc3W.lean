/-
  The walk of propfile.readClaim, way by way.
-/
import Derived.Test.YthdmhelgmejicaaGreatDoorPfRc2W
namespace Go.Proofs.YthdmhelgmejicaaGreatDoor
open Go.RowKit Go.Shelf
/-- Bytes as a string. -/
abbrev rd (x : By) : ByteArray := ⟨x.toArray⟩
theorem rd_size (x : By) : (rd x).size = x.length := by rw [← bsize0]
theorem Rc.setE {w wr : World} {lo hi : Int} {nm s : ByteArray} (h : Rc w wr lo hi nm s) : Rc w (wr.setCell ⟨w.heap.size + 1, 0, none⟩ .nilIface) lo hi nm s :=
  ⟨(heap_setCell_other wr ⟨w.heap.size + 1, 0, none⟩ _ _ (by simp)).trans h.c, heap_setCell_same wr (w.heap.size + 1) 0 _ _ _ h.e, ⟨(heap_setCell_other wr ⟨w.heap.size + 1, 0, none⟩ _ _ (by simp)).trans h.r.blk⟩, h.bel.trans ((Only.setCell wr (w.heap.size + 1) 0 _).below h.bel.size (fun i hi => by omega))⟩
theorem pointL (x : By) (hx : x.length ≤ 4194400) (hok : ptOk x = true) (R : Nat) (W : World) (h : Rdr W R (rd x)) :
    Calls Tryz.prog 78 #[.pointer (some ⟨R, 0, none⟩)] W fun e w' => e = .returned (.int .i64 (ptVal x : Int)) ∧ Rdr w' R (rd (x.drop (ptLen x))) ∧ Only W w' (fun i => i = R) :=
  point_ok (rd x) (by rw [rd_size]; exact hx) hok R W h
theorem pointN (x : By) (hx : x.length ≤ 4194400) (hok : ptOk x = false) (R : Nat) (W : World) (h : Rdr W R (rd x)) :
    Calls Tryz.prog 78 #[.pointer (some ⟨R, 0, none⟩)] W fun e w' => e = gave ∧ Only W w' (fun i => i = R) :=
  point_no (rd x) (by rw [rd_size]; exact hx) hok R W h
theorem foundL (x p : By) (b : Bool) (hb : Lib.hasPrefix x p = b) (R : Nat) (W : World) (h : Rdr W R (rd x)) :
    Calls Tryz.prog 79 #[.pointer (some ⟨R, 0, none⟩), .string (rd p)] W fun e w' => e = .returned (.bool b) ∧ Rdr w' R (rd (Lib.trimPrefix x p)) ∧ Only W w' (fun i => i = R) := by
  subst hb
  refine (found_any (rd x) (rd p) R W h).mono ?_
  rintro e w' ⟨rfl, rfl⟩
  exact ⟨rfl, h.set _, Only.setCell _ _ _ _⟩
theorem whileL (x : By) (hx : x.length ≤ 4194400) (R : Nat) (W : World) (h : Rdr W R (rd x)) :
    Calls Tryz.prog 80 #[.pointer (some ⟨R, 0, none⟩), .func (.func 81) #[] #[]] W fun e w' => (∃ t, e = .returned (.string t)) ∧ Rdr w' R (rd (x.dropWhile isBl)) ∧ Only W w' (fun i => i = R) := by
  refine (while_bl (rd x) (by rw [rd_size]; exact hx) R W h).mono ?_
  rintro e w' ⟨rfl, rfl⟩
  exact ⟨⟨_, rfl⟩, h.set _, Only.setCell _ _ _ _⟩
theorem nameL (x : By) (hx : x.length ≤ 4194400) (hn : isNm (x.takeWhile isNb) = true) (R : Nat) (W : World) (h : Rdr W R (rd x)) :
    Calls Tryz.prog 83 #[.pointer (some ⟨R, 0, none⟩)] W fun e w' => e = .returned (.string (rd (x.takeWhile isNb))) ∧ Rdr w' R (rd (x.dropWhile isNb)) ∧ Only W w' (fun i => i = R) := by
  refine (name_any (rd x) (by rw [rd_size]; exact hx) R W h).mono ?_
  rintro e w' ⟨he, rfl⟩
  exact ⟨by rw [he]; exact if_pos hn, h.set _, Only.setCell _ _ _ _⟩
theorem nameN (x : By) (hx : x.length ≤ 4194400) (hn : isNm (x.takeWhile isNb) = false) (R : Nat) (W : World) (h : Rdr W R (rd x)) :
    Calls Tryz.prog 83 #[.pointer (some ⟨R, 0, none⟩)] W fun e w' => e = gave ∧ Only W w' (fun i => i = R) := by
  refine (name_any (rd x) (by rw [rd_size]; exact hx) R W h).mono ?_
  rintro e w' ⟨he, rfl⟩
  exact ⟨by rw [he]; exact if_neg (by rw [show isNm ((rd x).data.toList.takeWhile isNb) = false from hn]; simp), Only.setCell _ _ _ _⟩
set_option maxRecDepth 10000 in
set_option maxHeartbeats 1600000 in
theorem rc_two (x : By) (hx : x.length ≤ 4194400) (pt : Addr) (w : World) (hT : w.cell? ⟨2, 0, none⟩ = some (.iface 236 (.pointer (some pt)))) (h1 : ptOk x = true) (r : By) (hr : r = x.drop (ptLen x)) (h2 : Lib.hasPrefix r [46, 46] = true) (r2 : By) (hr2 : r2 = Lib.trimPrefix r [46, 46]) (hr2l : r2.length ≤ 4194400) (h3 : ptOk r2 = false) :
    Calls Tryz.prog 46 #[.string (rd x)] w fun e w' => e = .returned (.tuple #[claimVal 0 0 ⟨#[]⟩, .iface 236 (.pointer (some pt))]) ∧ Below w.heap.size w w' := by
  have hmf : ∀ (fn : Fn) (first cap : Array Value) (w : World), (Instr.makeFunc fn first cap).run Tryz.prog w = .ok (.func fn first cap) w := fun _ _ _ _ => rfl
  have HS := hid0 (Rc.start w (rd x))
  have HT := hid0 hT
  have HP := hid0 (fun W h => pointL x hx h1 (w.heap.size + 2) W h)
  rw [← hr] at HP
  have HF := hid0 (fun W h => foundL r [46, 46] _ h2 (w.heap.size + 2) W h)
  rw [← hr2] at HF
  have HP2 := hid0 (fun W h => pointN r2 hr2l h3 (w.heap.size + 2) W h)
  clear hT h1 hx hr h2 hr2 hr2l h3
  go_enter_defers Tryz.func46, Tryz.ntmps46
  go_wp2_with (first
    | (go_at_call 78; refine (HP.out _ HS.out.r).mono ?_; rintro e w1 ⟨rfl, hr1, ho1⟩; have HS1 := hid0 (HS.out.step ho1 hr1); clear HS hr1 ho1; obtain ⟨k0, k1, k2, k3, kf, kg⟩ := HS1.out.cells)
    | (go_at_call 79; have hq := (HS1.out.setLo (ptVal x : Int)).setHi (ptVal x : Int); clear HS1; refine (HF.out _ hq.r).mono ?_; rintro e w2 ⟨rfl, hr1, ho1⟩; have HS2 := hid0 (hq.step ho1 hr1); clear hq hr1 ho1; clear k0 k1 k2 k3 kf kg; obtain ⟨k0, k1, k2, k3, kf, kg⟩ := HS2.out.cells)
    | (go_at_call 78; refine (HP2.out _ HS2.out.r).mono ?_; rintro e w3 ⟨rfl, ho1⟩; have HG := hid0 (HS2.out.off ho1); clear HS2 ho1)
    | fail)
  refine leaves_cons (f := 77) (args := #[.pointer (some ⟨w.heap.size, 0, none⟩), .pointer (some ⟨w.heap.size + 1, 0, none⟩)]) (by simp) (by simp [go_sem]) ?_
  refine (HG.out.gave pt HT.out).mono ?_
  rintro e u' w'' ⟨rfl, rfl, ⟨k0, k1, k2, k3⟩, hb⟩
  simp [Leaves, settle, results, Tryz.results46, go_sem, k0, k1, k2, k3, claimVal, hb]
set_option maxRecDepth 10000 in
set_option maxHeartbeats 1600000 in
theorem rc_semi0 (x : By) (hx : x.length ≤ 4194400) (pt : Addr) (w : World) (hT : w.cell? ⟨2, 0, none⟩ = some (.iface 236 (.pointer (some pt)))) (h1 : ptOk x = true) (r : By) (hr : r = x.drop (ptLen x)) (h2 : Lib.hasPrefix r [46, 46] = false) (r3 : By) (hr3 : r3 = Lib.trimPrefix r [46, 46]) (hr3l : r3.length ≤ 4194400) (r4 : By) (hr4 : r4 = r3.dropWhile isBl) (h4 : Lib.hasPrefix r4 [59] = false) :
    Calls Tryz.prog 46 #[.string (rd x)] w fun e w' => e = .returned (.tuple #[claimVal 0 0 ⟨#[]⟩, .iface 236 (.pointer (some pt))]) ∧ Below w.heap.size w w' := by
  have hmf : ∀ (fn : Fn) (first cap : Array Value) (w : World), (Instr.makeFunc fn first cap).run Tryz.prog w = .ok (.func fn first cap) w := fun _ _ _ _ => rfl
  have HS := hid0 (Rc.start w (rd x))
  have HT := hid0 hT
  have HP := hid0 (fun W h => pointL x hx h1 (w.heap.size + 2) W h)
  rw [← hr] at HP
  have HF := hid0 (fun W h => foundL r [46, 46] _ h2 (w.heap.size + 2) W h)
  rw [← hr3] at HF
  have HW := hid0 (fun W h => whileL r3 hr3l (w.heap.size + 2) W h)
  rw [← hr4] at HW
  have HF2 := hid0 (fun W h => foundL r4 [59] _ h4 (w.heap.size + 2) W h)
  clear hT h1 hx hr h2 hr3 hr3l hr4 h4
  go_enter_defers Tryz.func46, Tryz.ntmps46
  go_wp2_with (first
    | (go_at_call 78; refine (HP.out _ HS.out.r).mono ?_; rintro e w1 ⟨rfl, hr1, ho1⟩; have HS1 := hid0 (HS.out.step ho1 hr1); clear HS hr1 ho1; obtain ⟨k0, k1, k2, k3, kf, kg⟩ := HS1.out.cells)
    | (go_at_call 79; have hq := (HS1.out.setLo (ptVal x : Int)).setHi (ptVal x : Int); clear HS1; refine (HF.out _ hq.r).mono ?_; rintro e w2 ⟨rfl, hr1, ho1⟩; have HS2 := hid0 (hq.step ho1 hr1); clear hq hr1 ho1; clear k0 k1 k2 k3 kf kg; obtain ⟨k0, k1, k2, k3, kf, kg⟩ := HS2.out.cells)
    | (go_at_call 80; have hq := HS2.out; clear HS2; refine (HW.out _ hq.r).mono ?_; rintro e w4 ⟨⟨t4, rfl⟩, hr1, ho1⟩; have HS4 := hid0 (hq.step ho1 hr1); clear hq hr1 ho1; clear k0 k1 k2 k3 kf kg; obtain ⟨k0, k1, k2, k3, kf, kg⟩ := HS4.out.cells)
    | (go_at_call 79; refine (HF2.out _ HS4.out.r).mono ?_; rintro e w5 ⟨rfl, hr1, ho1⟩; have HS5 := hid0 (HS4.out.step ho1 hr1); clear HS4 hr1 ho1; clear k0 k1 k2 k3 kf kg; obtain ⟨k0, k1, k2, k3, kf, kg⟩ := HS5.out.cells)
    | (go_at_call 82; refine (need_no _ _).mono ?_; rintro e w6 ⟨rfl, rfl⟩; have HG := hid0 HS5.out.b)
    | fail)
  refine leaves_cons (f := 77) (args := #[.pointer (some ⟨w.heap.size, 0, none⟩), .pointer (some ⟨w.heap.size + 1, 0, none⟩)]) (by simp) (by simp [go_sem]) ?_
  refine (HG.out.gave pt HT.out).mono ?_
  rintro e u' w'' ⟨rfl, rfl, ⟨k0, k1, k2, k3⟩, hb⟩
  simp [Leaves, settle, results, Tryz.results46, go_sem, k0, k1, k2, k3, claimVal, hb]
set_option maxRecDepth 10000 in
set_option maxHeartbeats 1600000 in
theorem rc_semi1 (x : By) (hx : x.length ≤ 4194400) (pt : Addr) (w : World) (hT : w.cell? ⟨2, 0, none⟩ = some (.iface 236 (.pointer (some pt)))) (h1 : ptOk x = true) (r : By) (hr : r = x.drop (ptLen x)) (h2 : Lib.hasPrefix r [46, 46] = true) (r2 : By) (hr2 : r2 = Lib.trimPrefix r [46, 46]) (hr2l : r2.length ≤ 4194400) (h3 : ptOk r2 = true) (r3 : By) (hr3 : r3 = r2.drop (ptLen r2)) (hr3l : r3.length ≤ 4194400) (r4 : By) (hr4 : r4 = r3.dropWhile isBl) (h4 : Lib.hasPrefix r4 [59] = false) :
    Calls Tryz.prog 46 #[.string (rd x)] w fun e w' => e = .returned (.tuple #[claimVal 0 0 ⟨#[]⟩, .iface 236 (.pointer (some pt))]) ∧ Below w.heap.size w w' := by
  have hmf : ∀ (fn : Fn) (first cap : Array Value) (w : World), (Instr.makeFunc fn first cap).run Tryz.prog w = .ok (.func fn first cap) w := fun _ _ _ _ => rfl
  have HS := hid0 (Rc.start w (rd x))
  have HT := hid0 hT
  have HP := hid0 (fun W h => pointL x hx h1 (w.heap.size + 2) W h)
  rw [← hr] at HP
  have HF := hid0 (fun W h => foundL r [46, 46] _ h2 (w.heap.size + 2) W h)
  rw [← hr2] at HF
  have HP2 := hid0 (fun W h => pointL r2 hr2l h3 (w.heap.size + 2) W h)
  rw [← hr3] at HP2
  have HW := hid0 (fun W h => whileL r3 hr3l (w.heap.size + 2) W h)
  rw [← hr4] at HW
  have HF2 := hid0 (fun W h => foundL r4 [59] _ h4 (w.heap.size + 2) W h)
  clear hT h1 hx hr h2 hr2 hr2l h3 hr3 hr3l hr4 h4
  go_enter_defers Tryz.func46, Tryz.ntmps46
  go_wp2_with (first
    | (go_at_call 78; refine (HP.out _ HS.out.r).mono ?_; rintro e w1 ⟨rfl, hr1, ho1⟩; have HS1 := hid0 (HS.out.step ho1 hr1); clear HS hr1 ho1; obtain ⟨k0, k1, k2, k3, kf, kg⟩ := HS1.out.cells)
    | (go_at_call 79; have hq := (HS1.out.setLo (ptVal x : Int)).setHi (ptVal x : Int); clear HS1; refine (HF.out _ hq.r).mono ?_; rintro e w2 ⟨rfl, hr1, ho1⟩; have HS2 := hid0 (hq.step ho1 hr1); clear hq hr1 ho1; clear k0 k1 k2 k3 kf kg; obtain ⟨k0, k1, k2, k3, kf, kg⟩ := HS2.out.cells)
    | (go_at_call 78; refine (HP2.out _ HS2.out.r).mono ?_; rintro e w3 ⟨rfl, hr1, ho1⟩; have HS3 := hid0 (HS2.out.step ho1 hr1); clear HS2 hr1 ho1; clear k0 k1 k2 k3 kf kg; obtain ⟨k0, k1, k2, k3, kf, kg⟩ := HS3.out.cells)
    | (go_at_call 80; have hq := (HS3.out.setHi (ptVal r2 : Int)); clear HS3; refine (HW.out _ hq.r).mono ?_; rintro e w4 ⟨⟨t4, rfl⟩, hr1, ho1⟩; have HS4 := hid0 (hq.step ho1 hr1); clear hq hr1 ho1; clear k0 k1 k2 k3 kf kg; obtain ⟨k0, k1, k2, k3, kf, kg⟩ := HS4.out.cells)
    | (go_at_call 79; refine (HF2.out _ HS4.out.r).mono ?_; rintro e w5 ⟨rfl, hr1, ho1⟩; have HS5 := hid0 (HS4.out.step ho1 hr1); clear HS4 hr1 ho1; clear k0 k1 k2 k3 kf kg; obtain ⟨k0, k1, k2, k3, kf, kg⟩ := HS5.out.cells)
    | (go_at_call 82; refine (need_no _ _).mono ?_; rintro e w6 ⟨rfl, rfl⟩; have HG := hid0 HS5.out.b)
    | fail)
  refine leaves_cons (f := 77) (args := #[.pointer (some ⟨w.heap.size, 0, none⟩), .pointer (some ⟨w.heap.size + 1, 0, none⟩)]) (by simp) (by simp [go_sem]) ?_
  refine (HG.out.gave pt HT.out).mono ?_
  rintro e u' w'' ⟨rfl, rfl, ⟨k0, k1, k2, k3⟩, hb⟩
  simp [Leaves, settle, results, Tryz.results46, go_sem, k0, k1, k2, k3, claimVal, hb]
set_option maxRecDepth 10000 in
set_option maxHeartbeats 1600000 in
theorem rc_name0 (x : By) (hx : x.length ≤ 4194400) (pt : Addr) (w : World) (hT : w.cell? ⟨2, 0, none⟩ = some (.iface 236 (.pointer (some pt)))) (h1 : ptOk x = true) (r : By) (hr : r = x.drop (ptLen x)) (h2 : Lib.hasPrefix r [46, 46] = false) (r3 : By) (hr3 : r3 = Lib.trimPrefix r [46, 46]) (hr3l : r3.length ≤ 4194400) (r4 : By) (hr4 : r4 = r3.dropWhile isBl) (h4 : Lib.hasPrefix r4 [59] = true) (r5 : By) (hr5 : r5 = Lib.trimPrefix r4 [59]) (hr5l : r5.length ≤ 4194400) (r6 : By) (hr6 : r6 = r5.dropWhile isBl) (hr6l : r6.length ≤ 4194400) (h5 : isNm (r6.takeWhile isNb) = false) :
    Calls Tryz.prog 46 #[.string (rd x)] w fun e w' => e = .returned (.tuple #[claimVal 0 0 ⟨#[]⟩, .iface 236 (.pointer (some pt))]) ∧ Below w.heap.size w w' := by
  have hmf : ∀ (fn : Fn) (first cap : Array Value) (w : World), (Instr.makeFunc fn first cap).run Tryz.prog w = .ok (.func fn first cap) w := fun _ _ _ _ => rfl
  have HS := hid0 (Rc.start w (rd x))
  have HT := hid0 hT
  have HP := hid0 (fun W h => pointL x hx h1 (w.heap.size + 2) W h)
  rw [← hr] at HP
  have HF := hid0 (fun W h => foundL r [46, 46] _ h2 (w.heap.size + 2) W h)
  rw [← hr3] at HF
  have HW := hid0 (fun W h => whileL r3 hr3l (w.heap.size + 2) W h)
  rw [← hr4] at HW
  have HF2 := hid0 (fun W h => foundL r4 [59] _ h4 (w.heap.size + 2) W h)
  rw [← hr5] at HF2
  have HW2 := hid0 (fun W h => whileL r5 hr5l (w.heap.size + 2) W h)
  rw [← hr6] at HW2
  have HN := hid0 (fun W h => nameN r6 hr6l h5 (w.heap.size + 2) W h)
  clear hT h1 hx hr h2 hr3 hr3l hr4 h4 hr5 hr5l hr6 hr6l h5
  go_enter_defers Tryz.func46, Tryz.ntmps46
  go_wp2_with (first
    | (go_at_call 78; refine (HP.out _ HS.out.r).mono ?_; rintro e w1 ⟨rfl, hr1, ho1⟩; have HS1 := hid0 (HS.out.step ho1 hr1); clear HS hr1 ho1; obtain ⟨k0, k1, k2, k3, kf, kg⟩ := HS1.out.cells)
    | (go_at_call 79; have hq := (HS1.out.setLo (ptVal x : Int)).setHi (ptVal x : Int); clear HS1; refine (HF.out _ hq.r).mono ?_; rintro e w2 ⟨rfl, hr1, ho1⟩; have HS2 := hid0 (hq.step ho1 hr1); clear hq hr1 ho1; clear k0 k1 k2 k3 kf kg; obtain ⟨k0, k1, k2, k3, kf, kg⟩ := HS2.out.cells)
    | (go_at_call 80; have hq := HS2.out; clear HS2; refine (HW.out _ hq.r).mono ?_; rintro e w4 ⟨⟨t4, rfl⟩, hr1, ho1⟩; have HS4 := hid0 (hq.step ho1 hr1); clear hq hr1 ho1; clear k0 k1 k2 k3 kf kg; obtain ⟨k0, k1, k2, k3, kf, kg⟩ := HS4.out.cells)
    | (go_at_call 79; refine (HF2.out _ HS4.out.r).mono ?_; rintro e w5 ⟨rfl, hr1, ho1⟩; have HS5 := hid0 (HS4.out.step ho1 hr1); clear HS4 hr1 ho1; clear k0 k1 k2 k3 kf kg; obtain ⟨k0, k1, k2, k3, kf, kg⟩ := HS5.out.cells)
    | (go_at_call 82; have hq := HS5.out; clear HS5; refine (need_ok _ _).mono ?_; rintro e w6 ⟨rfl, rfl⟩; have HS6 := hid0 hq; clear hq)
    | (go_at_call 80; refine (HW2.out _ HS6.out.r).mono ?_; rintro e w7 ⟨⟨t7, rfl⟩, hr1, ho1⟩; have HS7 := hid0 (HS6.out.step ho1 hr1); clear HS6 hr1 ho1; clear k0 k1 k2 k3 kf kg; obtain ⟨k0, k1, k2, k3, kf, kg⟩ := HS7.out.cells)
    | (go_at_call 83; refine (HN.out _ HS7.out.r).mono ?_; rintro e w8 ⟨rfl, ho1⟩; have HG := hid0 (HS7.out.off ho1); clear HS7 ho1)
    | fail)
  refine leaves_cons (f := 77) (args := #[.pointer (some ⟨w.heap.size, 0, none⟩), .pointer (some ⟨w.heap.size + 1, 0, none⟩)]) (by simp) (by simp [go_sem]) ?_
  refine (HG.out.gave pt HT.out).mono ?_
  rintro e u' w'' ⟨rfl, rfl, ⟨k0, k1, k2, k3⟩, hb⟩
  simp [Leaves, settle, results, Tryz.results46, go_sem, k0, k1, k2, k3, claimVal, hb]
set_option maxRecDepth 10000 in
set_option maxHeartbeats 1600000 in
theorem rc_name1 (x : By) (hx : x.length ≤ 4194400) (pt : Addr) (w : World) (hT : w.cell? ⟨2, 0, none⟩ = some (.iface 236 (.pointer (some pt)))) (h1 : ptOk x = true) (r : By) (hr : r = x.drop (ptLen x)) (h2 : Lib.hasPrefix r [46, 46] = true) (r2 : By) (hr2 : r2 = Lib.trimPrefix r [46, 46]) (hr2l : r2.length ≤ 4194400) (h3 : ptOk r2 = true) (r3 : By) (hr3 : r3 = r2.drop (ptLen r2)) (hr3l : r3.length ≤ 4194400) (r4 : By) (hr4 : r4 = r3.dropWhile isBl) (h4 : Lib.hasPrefix r4 [59] = true) (r5 : By) (hr5 : r5 = Lib.trimPrefix r4 [59]) (hr5l : r5.length ≤ 4194400) (r6 : By) (hr6 : r6 = r5.dropWhile isBl) (hr6l : r6.length ≤ 4194400) (h5 : isNm (r6.takeWhile isNb) = false) :
    Calls Tryz.prog 46 #[.string (rd x)] w fun e w' => e = .returned (.tuple #[claimVal 0 0 ⟨#[]⟩, .iface 236 (.pointer (some pt))]) ∧ Below w.heap.size w w' := by
  have hmf : ∀ (fn : Fn) (first cap : Array Value) (w : World), (Instr.makeFunc fn first cap).run Tryz.prog w = .ok (.func fn first cap) w := fun _ _ _ _ => rfl
  have HS := hid0 (Rc.start w (rd x))
  have HT := hid0 hT
  have HP := hid0 (fun W h => pointL x hx h1 (w.heap.size + 2) W h)
  rw [← hr] at HP
  have HF := hid0 (fun W h => foundL r [46, 46] _ h2 (w.heap.size + 2) W h)
  rw [← hr2] at HF
  have HP2 := hid0 (fun W h => pointL r2 hr2l h3 (w.heap.size + 2) W h)
  rw [← hr3] at HP2
  have HW := hid0 (fun W h => whileL r3 hr3l (w.heap.size + 2) W h)
  rw [← hr4] at HW
  have HF2 := hid0 (fun W h => foundL r4 [59] _ h4 (w.heap.size + 2) W h)
  rw [← hr5] at HF2
  have HW2 := hid0 (fun W h => whileL r5 hr5l (w.heap.size + 2) W h)
  rw [← hr6] at HW2
  have HN := hid0 (fun W h => nameN r6 hr6l h5 (w.heap.size + 2) W h)
  clear hT h1 hx hr h2 hr2 hr2l h3 hr3 hr3l hr4 h4 hr5 hr5l hr6 hr6l h5
  go_enter_defers Tryz.func46, Tryz.ntmps46
  go_wp2_with (first
    | (go_at_call 78; refine (HP.out _ HS.out.r).mono ?_; rintro e w1 ⟨rfl, hr1, ho1⟩; have HS1 := hid0 (HS.out.step ho1 hr1); clear HS hr1 ho1; obtain ⟨k0, k1, k2, k3, kf, kg⟩ := HS1.out.cells)
    | (go_at_call 79; have hq := (HS1.out.setLo (ptVal x : Int)).setHi (ptVal x : Int); clear HS1; refine (HF.out _ hq.r).mono ?_; rintro e w2 ⟨rfl, hr1, ho1⟩; have HS2 := hid0 (hq.step ho1 hr1); clear hq hr1 ho1; clear k0 k1 k2 k3 kf kg; obtain ⟨k0, k1, k2, k3, kf, kg⟩ := HS2.out.cells)
    | (go_at_call 78; refine (HP2.out _ HS2.out.r).mono ?_; rintro e w3 ⟨rfl, hr1, ho1⟩; have HS3 := hid0 (HS2.out.step ho1 hr1); clear HS2 hr1 ho1; clear k0 k1 k2 k3 kf kg; obtain ⟨k0, k1, k2, k3, kf, kg⟩ := HS3.out.cells)
    | (go_at_call 80; have hq := (HS3.out.setHi (ptVal r2 : Int)); clear HS3; refine (HW.out _ hq.r).mono ?_; rintro e w4 ⟨⟨t4, rfl⟩, hr1, ho1⟩; have HS4 := hid0 (hq.step ho1 hr1); clear hq hr1 ho1; clear k0 k1 k2 k3 kf kg; obtain ⟨k0, k1, k2, k3, kf, kg⟩ := HS4.out.cells)
    | (go_at_call 79; refine (HF2.out _ HS4.out.r).mono ?_; rintro e w5 ⟨rfl, hr1, ho1⟩; have HS5 := hid0 (HS4.out.step ho1 hr1); clear HS4 hr1 ho1; clear k0 k1 k2 k3 kf kg; obtain ⟨k0, k1, k2, k3, kf, kg⟩ := HS5.out.cells)
    | (go_at_call 82; have hq := HS5.out; clear HS5; refine (need_ok _ _).mono ?_; rintro e w6 ⟨rfl, rfl⟩; have HS6 := hid0 hq; clear hq)
    | (go_at_call 80; refine (HW2.out _ HS6.out.r).mono ?_; rintro e w7 ⟨⟨t7, rfl⟩, hr1, ho1⟩; have HS7 := hid0 (HS6.out.step ho1 hr1); clear HS6 hr1 ho1; clear k0 k1 k2 k3 kf kg; obtain ⟨k0, k1, k2, k3, kf, kg⟩ := HS7.out.cells)
    | (go_at_call 83; refine (HN.out _ HS7.out.r).mono ?_; rintro e w8 ⟨rfl, ho1⟩; have HG := hid0 (HS7.out.off ho1); clear HS7 ho1)
    | fail)
  refine leaves_cons (f := 77) (args := #[.pointer (some ⟨w.heap.size, 0, none⟩), .pointer (some ⟨w.heap.size + 1, 0, none⟩)]) (by simp) (by simp [go_sem]) ?_
  refine (HG.out.gave pt HT.out).mono ?_
  rintro e u' w'' ⟨rfl, rfl, ⟨k0, k1, k2, k3⟩, hb⟩
  simp [Leaves, settle, results, Tryz.results46, go_sem, k0, k1, k2, k3, claimVal, hb]
set_option maxRecDepth 10000 in
set_option maxHeartbeats 1600000 in
theorem rc_rest0 (x : By) (hx : x.length ≤ 4194400) (pt : Addr) (w : World) (hT : w.cell? ⟨2, 0, none⟩ = some (.iface 236 (.pointer (some pt)))) (h1 : ptOk x = true) (r : By) (hr : r = x.drop (ptLen x)) (h2 : Lib.hasPrefix r [46, 46] = false) (r3 : By) (hr3 : r3 = Lib.trimPrefix r [46, 46]) (hr3l : r3.length ≤ 4194400) (r4 : By) (hr4 : r4 = r3.dropWhile isBl) (h4 : Lib.hasPrefix r4 [59] = true) (r5 : By) (hr5 : r5 = Lib.trimPrefix r4 [59]) (hr5l : r5.length ≤ 4194400) (r6 : By) (hr6 : r6 = r5.dropWhile isBl) (hr6l : r6.length ≤ 4194400) (h5 : isNm (r6.takeWhile isNb) = true) (nm : By) (hnm : nm = r6.takeWhile isNb) (c7 : UInt8) (r7 : By) (h7 : r6.dropWhile isNb = c7 :: r7) :
    Calls Tryz.prog 46 #[.string (rd x)] w fun e w' => e = .returned (.tuple #[claimVal 0 0 ⟨#[]⟩, .iface 236 (.pointer (some pt))]) ∧ Below w.heap.size w w' := by
  have hmf : ∀ (fn : Fn) (first cap : Array Value) (w : World), (Instr.makeFunc fn first cap).run Tryz.prog w = .ok (.func fn first cap) w := fun _ _ _ _ => rfl
  have HS := hid0 (Rc.start w (rd x))
  have HT := hid0 hT
  have HP := hid0 (fun W h => pointL x hx h1 (w.heap.size + 2) W h)
  rw [← hr] at HP
  have HF := hid0 (fun W h => foundL r [46, 46] _ h2 (w.heap.size + 2) W h)
  rw [← hr3] at HF
  have HW := hid0 (fun W h => whileL r3 hr3l (w.heap.size + 2) W h)
  rw [← hr4] at HW
  have HF2 := hid0 (fun W h => foundL r4 [59] _ h4 (w.heap.size + 2) W h)
  rw [← hr5] at HF2
  have HW2 := hid0 (fun W h => whileL r5 hr5l (w.heap.size + 2) W h)
  rw [← hr6] at HW2
  have HN := hid0 (fun W h => nameL r6 hr6l h5 (w.heap.size + 2) W h)
  rw [← hnm, h7] at HN
  have hemp : (rd (c7 :: r7)).toList.isEmpty = false := by rw [← decide_eq_emptyBytes]; exact decide_eq_false (fun h => by have := congrArg ByteArray.size h; rw [rd_size] at this; simp at this)
  clear hT h1 hx hr h2 hr3 hr3l hr4 h4 hr5 hr5l hr6 hr6l h5 hnm h7
  go_enter_defers Tryz.func46, Tryz.ntmps46
  go_wp2_with (first
    | (go_at_call 78; refine (HP.out _ HS.out.r).mono ?_; rintro e w1 ⟨rfl, hr1, ho1⟩; have HS1 := hid0 (HS.out.step ho1 hr1); clear HS hr1 ho1; obtain ⟨k0, k1, k2, k3, kf, kg⟩ := HS1.out.cells)
    | (go_at_call 79; have hq := (HS1.out.setLo (ptVal x : Int)).setHi (ptVal x : Int); clear HS1; refine (HF.out _ hq.r).mono ?_; rintro e w2 ⟨rfl, hr1, ho1⟩; have HS2 := hid0 (hq.step ho1 hr1); clear hq hr1 ho1; clear k0 k1 k2 k3 kf kg; obtain ⟨k0, k1, k2, k3, kf, kg⟩ := HS2.out.cells)
    | (go_at_call 80; have hq := HS2.out; clear HS2; refine (HW.out _ hq.r).mono ?_; rintro e w4 ⟨⟨t4, rfl⟩, hr1, ho1⟩; have HS4 := hid0 (hq.step ho1 hr1); clear hq hr1 ho1; clear k0 k1 k2 k3 kf kg; obtain ⟨k0, k1, k2, k3, kf, kg⟩ := HS4.out.cells)
    | (go_at_call 79; refine (HF2.out _ HS4.out.r).mono ?_; rintro e w5 ⟨rfl, hr1, ho1⟩; have HS5 := hid0 (HS4.out.step ho1 hr1); clear HS4 hr1 ho1; clear k0 k1 k2 k3 kf kg; obtain ⟨k0, k1, k2, k3, kf, kg⟩ := HS5.out.cells)
    | (go_at_call 82; have hq := HS5.out; clear HS5; refine (need_ok _ _).mono ?_; rintro e w6 ⟨rfl, rfl⟩; have HS6 := hid0 hq; clear hq)
    | (go_at_call 80; refine (HW2.out _ HS6.out.r).mono ?_; rintro e w7 ⟨⟨t7, rfl⟩, hr1, ho1⟩; have HS7 := hid0 (HS6.out.step ho1 hr1); clear HS6 hr1 ho1; clear k0 k1 k2 k3 kf kg; obtain ⟨k0, k1, k2, k3, kf, kg⟩ := HS7.out.cells)
    | (go_at_call 83; refine (HN.out _ HS7.out.r).mono ?_; rintro e w8 ⟨rfl, hr1, ho1⟩; have HS8 := hid0 ((HS7.out.step ho1 hr1).setNm (rd nm)); obtain ⟨k0, k1, k2, k3, kf, kg⟩ := (HS7.out.step ho1 hr1).cells; have kr := hr1.cells.1; clear HS7 hr1 ho1)
    | (go_at_call 82; refine (need_no _ _).mono ?_; rintro e w9 ⟨rfl, rfl⟩; have HG := hid0 HS8.out.b)
    | fail)
  refine leaves_cons (f := 77) (args := #[.pointer (some ⟨w.heap.size, 0, none⟩), .pointer (some ⟨w.heap.size + 1, 0, none⟩)]) (by simp) (by simp [go_sem]) ?_
  refine (HG.out.gave pt HT.out).mono ?_
  rintro e u' w'' ⟨rfl, rfl, ⟨k0, k1, k2, k3⟩, hb⟩
  simp [Leaves, settle, results, Tryz.results46, go_sem, k0, k1, k2, k3, claimVal, hb]
set_option maxRecDepth 10000 in
set_option maxHeartbeats 1600000 in
theorem rc_rest1 (x : By) (hx : x.length ≤ 4194400) (pt : Addr) (w : World) (hT : w.cell? ⟨2, 0, none⟩ = some (.iface 236 (.pointer (some pt)))) (h1 : ptOk x = true) (r : By) (hr : r = x.drop (ptLen x)) (h2 : Lib.hasPrefix r [46, 46] = true) (r2 : By) (hr2 : r2 = Lib.trimPrefix r [46, 46]) (hr2l : r2.length ≤ 4194400) (h3 : ptOk r2 = true) (r3 : By) (hr3 : r3 = r2.drop (ptLen r2)) (hr3l : r3.length ≤ 4194400) (r4 : By) (hr4 : r4 = r3.dropWhile isBl) (h4 : Lib.hasPrefix r4 [59] = true) (r5 : By) (hr5 : r5 = Lib.trimPrefix r4 [59]) (hr5l : r5.length ≤ 4194400) (r6 : By) (hr6 : r6 = r5.dropWhile isBl) (hr6l : r6.length ≤ 4194400) (h5 : isNm (r6.takeWhile isNb) = true) (nm : By) (hnm : nm = r6.takeWhile isNb) (c7 : UInt8) (r7 : By) (h7 : r6.dropWhile isNb = c7 :: r7) :
    Calls Tryz.prog 46 #[.string (rd x)] w fun e w' => e = .returned (.tuple #[claimVal 0 0 ⟨#[]⟩, .iface 236 (.pointer (some pt))]) ∧ Below w.heap.size w w' := by
  have hmf : ∀ (fn : Fn) (first cap : Array Value) (w : World), (Instr.makeFunc fn first cap).run Tryz.prog w = .ok (.func fn first cap) w := fun _ _ _ _ => rfl
  have HS := hid0 (Rc.start w (rd x))
  have HT := hid0 hT
  have HP := hid0 (fun W h => pointL x hx h1 (w.heap.size + 2) W h)
  rw [← hr] at HP
  have HF := hid0 (fun W h => foundL r [46, 46] _ h2 (w.heap.size + 2) W h)
  rw [← hr2] at HF
  have HP2 := hid0 (fun W h => pointL r2 hr2l h3 (w.heap.size + 2) W h)
  rw [← hr3] at HP2
  have HW := hid0 (fun W h => whileL r3 hr3l (w.heap.size + 2) W h)
  rw [← hr4] at HW
  have HF2 := hid0 (fun W h => foundL r4 [59] _ h4 (w.heap.size + 2) W h)
  rw [← hr5] at HF2
  have HW2 := hid0 (fun W h => whileL r5 hr5l (w.heap.size + 2) W h)
  rw [← hr6] at HW2
  have HN := hid0 (fun W h => nameL r6 hr6l h5 (w.heap.size + 2) W h)
  rw [← hnm, h7] at HN
  have hemp : (rd (c7 :: r7)).toList.isEmpty = false := by rw [← decide_eq_emptyBytes]; exact decide_eq_false (fun h => by have := congrArg ByteArray.size h; rw [rd_size] at this; simp at this)
  clear hT h1 hx hr h2 hr2 hr2l h3 hr3 hr3l hr4 h4 hr5 hr5l hr6 hr6l h5 hnm h7
  go_enter_defers Tryz.func46, Tryz.ntmps46
  go_wp2_with (first
    | (go_at_call 78; refine (HP.out _ HS.out.r).mono ?_; rintro e w1 ⟨rfl, hr1, ho1⟩; have HS1 := hid0 (HS.out.step ho1 hr1); clear HS hr1 ho1; obtain ⟨k0, k1, k2, k3, kf, kg⟩ := HS1.out.cells)
    | (go_at_call 79; have hq := (HS1.out.setLo (ptVal x : Int)).setHi (ptVal x : Int); clear HS1; refine (HF.out _ hq.r).mono ?_; rintro e w2 ⟨rfl, hr1, ho1⟩; have HS2 := hid0 (hq.step ho1 hr1); clear hq hr1 ho1; clear k0 k1 k2 k3 kf kg; obtain ⟨k0, k1, k2, k3, kf, kg⟩ := HS2.out.cells)
    | (go_at_call 78; refine (HP2.out _ HS2.out.r).mono ?_; rintro e w3 ⟨rfl, hr1, ho1⟩; have HS3 := hid0 (HS2.out.step ho1 hr1); clear HS2 hr1 ho1; clear k0 k1 k2 k3 kf kg; obtain ⟨k0, k1, k2, k3, kf, kg⟩ := HS3.out.cells)
    | (go_at_call 80; have hq := (HS3.out.setHi (ptVal r2 : Int)); clear HS3; refine (HW.out _ hq.r).mono ?_; rintro e w4 ⟨⟨t4, rfl⟩, hr1, ho1⟩; have HS4 := hid0 (hq.step ho1 hr1); clear hq hr1 ho1; clear k0 k1 k2 k3 kf kg; obtain ⟨k0, k1, k2, k3, kf, kg⟩ := HS4.out.cells)
    | (go_at_call 79; refine (HF2.out _ HS4.out.r).mono ?_; rintro e w5 ⟨rfl, hr1, ho1⟩; have HS5 := hid0 (HS4.out.step ho1 hr1); clear HS4 hr1 ho1; clear k0 k1 k2 k3 kf kg; obtain ⟨k0, k1, k2, k3, kf, kg⟩ := HS5.out.cells)
    | (go_at_call 82; have hq := HS5.out; clear HS5; refine (need_ok _ _).mono ?_; rintro e w6 ⟨rfl, rfl⟩; have HS6 := hid0 hq; clear hq)
    | (go_at_call 80; refine (HW2.out _ HS6.out.r).mono ?_; rintro e w7 ⟨⟨t7, rfl⟩, hr1, ho1⟩; have HS7 := hid0 (HS6.out.step ho1 hr1); clear HS6 hr1 ho1; clear k0 k1 k2 k3 kf kg; obtain ⟨k0, k1, k2, k3, kf, kg⟩ := HS7.out.cells)
    | (go_at_call 83; refine (HN.out _ HS7.out.r).mono ?_; rintro e w8 ⟨rfl, hr1, ho1⟩; have HS8 := hid0 ((HS7.out.step ho1 hr1).setNm (rd nm)); obtain ⟨k0, k1, k2, k3, kf, kg⟩ := (HS7.out.step ho1 hr1).cells; have kr := hr1.cells.1; clear HS7 hr1 ho1)
    | (go_at_call 82; refine (need_no _ _).mono ?_; rintro e w9 ⟨rfl, rfl⟩; have HG := hid0 HS8.out.b)
    | fail)
  refine leaves_cons (f := 77) (args := #[.pointer (some ⟨w.heap.size, 0, none⟩), .pointer (some ⟨w.heap.size + 1, 0, none⟩)]) (by simp) (by simp [go_sem]) ?_
  refine (HG.out.gave pt HT.out).mono ?_
  rintro e u' w'' ⟨rfl, rfl, ⟨k0, k1, k2, k3⟩, hb⟩
  simp [Leaves, settle, results, Tryz.results46, go_sem, k0, k1, k2, k3, claimVal, hb]
set_option maxRecDepth 10000 in
set_option maxHeartbeats 1600000 in
theorem rc_ok0 (x : By) (hx : x.length ≤ 4194400) (pt : Addr) (w : World) (hT : w.cell? ⟨2, 0, none⟩ = some (.iface 236 (.pointer (some pt)))) (h1 : ptOk x = true) (r : By) (hr : r = x.drop (ptLen x)) (h2 : Lib.hasPrefix r [46, 46] = false) (r3 : By) (hr3 : r3 = Lib.trimPrefix r [46, 46]) (hr3l : r3.length ≤ 4194400) (r4 : By) (hr4 : r4 = r3.dropWhile isBl) (h4 : Lib.hasPrefix r4 [59] = true) (r5 : By) (hr5 : r5 = Lib.trimPrefix r4 [59]) (hr5l : r5.length ≤ 4194400) (r6 : By) (hr6 : r6 = r5.dropWhile isBl) (hr6l : r6.length ≤ 4194400) (h5 : isNm (r6.takeWhile isNb) = true) (nm : By) (hnm : nm = r6.takeWhile isNb) (h7 : r6.dropWhile isNb = []) :
    Calls Tryz.prog 46 #[.string (rd x)] w fun e w' => e = .returned (.tuple #[claimVal (ptVal x : Int) (ptVal x : Int) (rd nm), .nilIface]) ∧ Below w.heap.size w w' := by
  have hmf : ∀ (fn : Fn) (first cap : Array Value) (w : World), (Instr.makeFunc fn first cap).run Tryz.prog w = .ok (.func fn first cap) w := fun _ _ _ _ => rfl
  have HS := hid0 (Rc.start w (rd x))
  have HT := hid0 hT
  have HP := hid0 (fun W h => pointL x hx h1 (w.heap.size + 2) W h)
  rw [← hr] at HP
  have HF := hid0 (fun W h => foundL r [46, 46] _ h2 (w.heap.size + 2) W h)
  rw [← hr3] at HF
  have HW := hid0 (fun W h => whileL r3 hr3l (w.heap.size + 2) W h)
  rw [← hr4] at HW
  have HF2 := hid0 (fun W h => foundL r4 [59] _ h4 (w.heap.size + 2) W h)
  rw [← hr5] at HF2
  have HW2 := hid0 (fun W h => whileL r5 hr5l (w.heap.size + 2) W h)
  rw [← hr6] at HW2
  have HN := hid0 (fun W h => nameL r6 hr6l h5 (w.heap.size + 2) W h)
  rw [← hnm, h7] at HN
  clear hT h1 hx hr h2 hr3 hr3l hr4 h4 hr5 hr5l hr6 hr6l h5 hnm h7
  go_enter_defers Tryz.func46, Tryz.ntmps46
  go_wp2_with (first
    | (go_at_call 78; refine (HP.out _ HS.out.r).mono ?_; rintro e w1 ⟨rfl, hr1, ho1⟩; have HS1 := hid0 (HS.out.step ho1 hr1); clear HS hr1 ho1; obtain ⟨k0, k1, k2, k3, kf, kg⟩ := HS1.out.cells)
    | (go_at_call 79; have hq := (HS1.out.setLo (ptVal x : Int)).setHi (ptVal x : Int); clear HS1; refine (HF.out _ hq.r).mono ?_; rintro e w2 ⟨rfl, hr1, ho1⟩; have HS2 := hid0 (hq.step ho1 hr1); clear hq hr1 ho1; clear k0 k1 k2 k3 kf kg; obtain ⟨k0, k1, k2, k3, kf, kg⟩ := HS2.out.cells)
    | (go_at_call 80; have hq := HS2.out; clear HS2; refine (HW.out _ hq.r).mono ?_; rintro e w4 ⟨⟨t4, rfl⟩, hr1, ho1⟩; have HS4 := hid0 (hq.step ho1 hr1); clear hq hr1 ho1; clear k0 k1 k2 k3 kf kg; obtain ⟨k0, k1, k2, k3, kf, kg⟩ := HS4.out.cells)
    | (go_at_call 79; refine (HF2.out _ HS4.out.r).mono ?_; rintro e w5 ⟨rfl, hr1, ho1⟩; have HS5 := hid0 (HS4.out.step ho1 hr1); clear HS4 hr1 ho1; clear k0 k1 k2 k3 kf kg; obtain ⟨k0, k1, k2, k3, kf, kg⟩ := HS5.out.cells)
    | (go_at_call 82; have hq := HS5.out; clear HS5; refine (need_ok _ _).mono ?_; rintro e w6 ⟨rfl, rfl⟩; have HS6 := hid0 hq; clear hq)
    | (go_at_call 80; refine (HW2.out _ HS6.out.r).mono ?_; rintro e w7 ⟨⟨t7, rfl⟩, hr1, ho1⟩; have HS7 := hid0 (HS6.out.step ho1 hr1); clear HS6 hr1 ho1; clear k0 k1 k2 k3 kf kg; obtain ⟨k0, k1, k2, k3, kf, kg⟩ := HS7.out.cells)
    | (go_at_call 83; refine (HN.out _ HS7.out.r).mono ?_; rintro e w8 ⟨rfl, hr1, ho1⟩; have HS8 := hid0 ((HS7.out.step ho1 hr1).setNm (rd nm)); obtain ⟨k0, k1, k2, k3, kf, kg⟩ := (HS7.out.step ho1 hr1).cells; have kr := hr1.cells.1; clear HS7 hr1 ho1)
    | (go_at_call 82; refine (need_ok _ _).mono ?_; rintro e w9 ⟨rfl, rfl⟩)
    | fail)
  refine leaves_cons (f := 77) (args := #[.pointer (some ⟨w.heap.size, 0, none⟩), .pointer (some ⟨w.heap.size + 1, 0, none⟩)]) (by simp) (by simp [go_sem]) ?_
  refine (catch_idle _ _ _).mono ?_
  rintro e u' w'' ⟨rfl, rfl, rfl⟩
  have hF := (((HS8.out.setLo (ptVal x : Int)).setHi (ptVal x : Int)).setNm (rd nm)).setE
  obtain ⟨q0, q1, q2, q3, _, _⟩ := hF.cells
  have hb := hF.bel
  clear hF HS8 kf kg k0 k1 k2 k3
  generalize ((((w8.setCell ⟨w.heap.size, 2, none⟩ (.string (rd nm))).setCell ⟨w.heap.size, 0, none⟩ (.int .i64 (ptVal x : Int))).setCell ⟨w.heap.size, 1, none⟩ (.int .i64 (ptVal x : Int))).setCell ⟨w.heap.size, 2, none⟩ (.string (rd nm))).setCell ⟨w.heap.size + 1, 0, none⟩ .nilIface = W at *
  simp [Leaves, settle, results, Tryz.results46, go_sem, q0, q1, q2, q3, claimVal, hb]
set_option maxRecDepth 10000 in
set_option maxHeartbeats 1600000 in
theorem rc_ok1 (x : By) (hx : x.length ≤ 4194400) (pt : Addr) (w : World) (hT : w.cell? ⟨2, 0, none⟩ = some (.iface 236 (.pointer (some pt)))) (h1 : ptOk x = true) (r : By) (hr : r = x.drop (ptLen x)) (h2 : Lib.hasPrefix r [46, 46] = true) (r2 : By) (hr2 : r2 = Lib.trimPrefix r [46, 46]) (hr2l : r2.length ≤ 4194400) (h3 : ptOk r2 = true) (r3 : By) (hr3 : r3 = r2.drop (ptLen r2)) (hr3l : r3.length ≤ 4194400) (r4 : By) (hr4 : r4 = r3.dropWhile isBl) (h4 : Lib.hasPrefix r4 [59] = true) (r5 : By) (hr5 : r5 = Lib.trimPrefix r4 [59]) (hr5l : r5.length ≤ 4194400) (r6 : By) (hr6 : r6 = r5.dropWhile isBl) (hr6l : r6.length ≤ 4194400) (h5 : isNm (r6.takeWhile isNb) = true) (nm : By) (hnm : nm = r6.takeWhile isNb) (h7 : r6.dropWhile isNb = []) :
    Calls Tryz.prog 46 #[.string (rd x)] w fun e w' => e = .returned (.tuple #[claimVal (ptVal x : Int) (ptVal r2 : Int) (rd nm), .nilIface]) ∧ Below w.heap.size w w' := by
  have hmf : ∀ (fn : Fn) (first cap : Array Value) (w : World), (Instr.makeFunc fn first cap).run Tryz.prog w = .ok (.func fn first cap) w := fun _ _ _ _ => rfl
  have HS := hid0 (Rc.start w (rd x))
  have HT := hid0 hT
  have HP := hid0 (fun W h => pointL x hx h1 (w.heap.size + 2) W h)
  rw [← hr] at HP
  have HF := hid0 (fun W h => foundL r [46, 46] _ h2 (w.heap.size + 2) W h)
  rw [← hr2] at HF
  have HP2 := hid0 (fun W h => pointL r2 hr2l h3 (w.heap.size + 2) W h)
  rw [← hr3] at HP2
  have HW := hid0 (fun W h => whileL r3 hr3l (w.heap.size + 2) W h)
  rw [← hr4] at HW
  have HF2 := hid0 (fun W h => foundL r4 [59] _ h4 (w.heap.size + 2) W h)
  rw [← hr5] at HF2
  have HW2 := hid0 (fun W h => whileL r5 hr5l (w.heap.size + 2) W h)
  rw [← hr6] at HW2
  have HN := hid0 (fun W h => nameL r6 hr6l h5 (w.heap.size + 2) W h)
  rw [← hnm, h7] at HN
  clear hT h1 hx hr h2 hr2 hr2l h3 hr3 hr3l hr4 h4 hr5 hr5l hr6 hr6l h5 hnm h7
  go_enter_defers Tryz.func46, Tryz.ntmps46
  go_wp2_with (first
    | (go_at_call 78; refine (HP.out _ HS.out.r).mono ?_; rintro e w1 ⟨rfl, hr1, ho1⟩; have HS1 := hid0 (HS.out.step ho1 hr1); clear HS hr1 ho1; obtain ⟨k0, k1, k2, k3, kf, kg⟩ := HS1.out.cells)
    | (go_at_call 79; have hq := (HS1.out.setLo (ptVal x : Int)).setHi (ptVal x : Int); clear HS1; refine (HF.out _ hq.r).mono ?_; rintro e w2 ⟨rfl, hr1, ho1⟩; have HS2 := hid0 (hq.step ho1 hr1); clear hq hr1 ho1; clear k0 k1 k2 k3 kf kg; obtain ⟨k0, k1, k2, k3, kf, kg⟩ := HS2.out.cells)
    | (go_at_call 78; refine (HP2.out _ HS2.out.r).mono ?_; rintro e w3 ⟨rfl, hr1, ho1⟩; have HS3 := hid0 (HS2.out.step ho1 hr1); clear HS2 hr1 ho1; clear k0 k1 k2 k3 kf kg; obtain ⟨k0, k1, k2, k3, kf, kg⟩ := HS3.out.cells)
    | (go_at_call 80; have hq := (HS3.out.setHi (ptVal r2 : Int)); clear HS3; refine (HW.out _ hq.r).mono ?_; rintro e w4 ⟨⟨t4, rfl⟩, hr1, ho1⟩; have HS4 := hid0 (hq.step ho1 hr1); clear hq hr1 ho1; clear k0 k1 k2 k3 kf kg; obtain ⟨k0, k1, k2, k3, kf, kg⟩ := HS4.out.cells)
    | (go_at_call 79; refine (HF2.out _ HS4.out.r).mono ?_; rintro e w5 ⟨rfl, hr1, ho1⟩; have HS5 := hid0 (HS4.out.step ho1 hr1); clear HS4 hr1 ho1; clear k0 k1 k2 k3 kf kg; obtain ⟨k0, k1, k2, k3, kf, kg⟩ := HS5.out.cells)
    | (go_at_call 82; have hq := HS5.out; clear HS5; refine (need_ok _ _).mono ?_; rintro e w6 ⟨rfl, rfl⟩; have HS6 := hid0 hq; clear hq)
    | (go_at_call 80; refine (HW2.out _ HS6.out.r).mono ?_; rintro e w7 ⟨⟨t7, rfl⟩, hr1, ho1⟩; have HS7 := hid0 (HS6.out.step ho1 hr1); clear HS6 hr1 ho1; clear k0 k1 k2 k3 kf kg; obtain ⟨k0, k1, k2, k3, kf, kg⟩ := HS7.out.cells)
    | (go_at_call 83; refine (HN.out _ HS7.out.r).mono ?_; rintro e w8 ⟨rfl, hr1, ho1⟩; have HS8 := hid0 ((HS7.out.step ho1 hr1).setNm (rd nm)); obtain ⟨k0, k1, k2, k3, kf, kg⟩ := (HS7.out.step ho1 hr1).cells; have kr := hr1.cells.1; clear HS7 hr1 ho1)
    | (go_at_call 82; refine (need_ok _ _).mono ?_; rintro e w9 ⟨rfl, rfl⟩)
    | fail)
  refine leaves_cons (f := 77) (args := #[.pointer (some ⟨w.heap.size, 0, none⟩), .pointer (some ⟨w.heap.size + 1, 0, none⟩)]) (by simp) (by simp [go_sem]) ?_
  refine (catch_idle _ _ _).mono ?_
  rintro e u' w'' ⟨rfl, rfl, rfl⟩
  have hF := (((HS8.out.setLo (ptVal x : Int)).setHi (ptVal r2 : Int)).setNm (rd nm)).setE
  obtain ⟨q0, q1, q2, q3, _, _⟩ := hF.cells
  have hb := hF.bel
  clear hF HS8 kf kg k0 k1 k2 k3
  generalize ((((w8.setCell ⟨w.heap.size, 2, none⟩ (.string (rd nm))).setCell ⟨w.heap.size, 0, none⟩ (.int .i64 (ptVal x : Int))).setCell ⟨w.heap.size, 1, none⟩ (.int .i64 (ptVal r2 : Int))).setCell ⟨w.heap.size, 2, none⟩ (.string (rd nm))).setCell ⟨w.heap.size + 1, 0, none⟩ .nilIface = W at *
  simp [Leaves, settle, results, Tryz.results46, go_sem, q0, q1, q2, q3, claimVal, hb]
end Go.Proofs.YthdmhelgmejicaaGreatDoor
