/-
  The walks of caesuraref1's Reader.
-/
import Derived.Test.YtnclpcnpaodjjaaDoorWritesW
namespace Go.Proofs.YtnclpcnpaodjjaaDoor
open Go.RowKit
/-- The reference's reader: its bytes, its place. -/
structure RRd (w : World) (B : Nat) (v : Value) (l : List UInt8) (p : Nat) : Prop where
  blk : w.heap[B]? = some (.cells #[v, .int .i64 (p : Int)] 64 (0, 0))
  own : Own w 0 v l
  le : p ≤ l.length
theorem RRd.lt {w : World} {B : Nat} {v : Value} {l : List UInt8} {p : Nat} (h : RRd w B v l p) : B < w.heap.size := (Array.getElem?_eq_some_iff.1 h.blk).1
theorem RRd.ne {w : World} {B : Nat} {v : Value} {l : List UInt8} {p : Nat} (h : RRd w B v l p) : ¬ v.ownBlock = some B := h.own.seg.ne h.blk (by decide)
theorem RRd.cells {w : World} {B : Nat} {v : Value} {l : List UInt8} {p : Nat} (h : RRd w B v l p) : w.cell? ⟨B, 0, none⟩ = some v ∧ w.cell? ⟨B, 1, none⟩ = some (.int .i64 (p : Int)) ∧ (∀ k, w.frozen? ⟨B, k, none⟩ = false) :=
  ⟨by rw [cell_of_row w B _ _ _ _ h.blk]; rfl, by rw [cell_of_row w B _ _ _ _ h.blk]; rfl, fun k => frozen_of_row w B _ _ _ h.blk⟩
theorem RRd.later {w w' : World} {B : Nat} {v : Value} {l : List UInt8} {p : Nat} (h : RRd w B v l p) (hb : Below w.heap.size w w') : RRd w' B v l p :=
  ⟨(hb.block B h.lt).trans h.blk, h.own.later hb, h.le⟩
theorem RRd.only {w w' : World} {S : Nat → Prop} {B : Nat} {v : Value} {l : List UInt8} {p : Nat} (h : RRd w B v l p) (ho : Only w w' S) (h1 : ¬ S B) (h2 : ∀ k, v.ownBlock = some k → ¬ S k) : RRd w' B v l p :=
  ⟨(ho.block B h.lt h1).trans h.blk, ho.own h.own h2, h.le⟩
theorem RRd.drewN {w : World} {B : Nat} {v : Value} {l : List UInt8} {p : Nat} (h : RRd w B v l p) (k : Nat) : RRd (w.drewN k) B v l p := ⟨h.blk, h.own, h.le⟩
theorem RRd.set {w : World} {B : Nat} {v : Value} {l : List UInt8} {p : Nat} (h : RRd w B v l p) (q : Nat) (hq : q ≤ l.length) : RRd (w.setCell ⟨B, 1, none⟩ (.int .i64 (q : Int))) B v l q :=
  ⟨heap_setCell_same w B 1 _ _ _ h.blk, (Only.setCell w B 1 _).own h.own (fun k hk e => by subst e; exact h.ne hk), hq⟩
theorem RRd.set' {w : World} {B : Nat} {v : Value} {l : List UInt8} {p : Nat} (h : RRd w B v l p) (q : Nat) (x : Int) (hx : x = (q : Int)) (hq : q ≤ l.length) : RRd (w.setCell ⟨B, 1, none⟩ (.int .i64 x)) B v l q := by subst hx; exact h.set q hq
set_option maxRecDepth 10000 in
theorem refLeft_any (B : Nat) (v : Value) (l : List UInt8) (p : Nat) (w : World) (h : RRd w B v l p) (hl : l.length ≤ 140737488355328) :
    Calls Tryd.prog 17 #[.pointer (some ⟨B, 0, none⟩)] w fun e w' => e = .returned (.int .i64 ((l.length - p : Nat) : Int)) ∧ ∃ n, w' = w.drewN n := by
  obtain ⟨q0, q1, f⟩ := h.cells
  obtain ⟨a, cap, rfl, _⟩ := h.own.bytesAt.ba
  have hle := h.le
  clear h f
  go_enter Tryd.func17, Tryd.ntmps17
  go_wp2
  go_quiet ((fail))
  go_wp2
  go_ret
  exact ⟨by rw [show ((l.length - p : Nat) : Int) = (l.length : Int) - (p : Int) by omega]; go_num, _, rfl⟩
/-- What the reference answers; where it stands then. -/
def refVal : NumR → Value
  | .ok n _ => .tuple #[.int .i64 n, .int .i64 0]
  | .form => .tuple #[.int .i64 0, .int .i64 10]
  | .short => .tuple #[.int .i64 0, .int .i64 4]
def refAt (p : Nat) : NumR → Nat
  | .ok _ k => p + k
  | _ => p
set_option maxRecDepth 10000 in
set_option maxHeartbeats 6400000 in
theorem refRNum_any (B : Nat) (v : Value) (l : List UInt8) (p : Nat) (w : World) (h : RRd w B v l p) (hl : l.length ≤ 140737488355328) :
    Calls Tryd.prog 16 #[.pointer (some ⟨B, 0, none⟩)] w fun e w' => e = .returned (refVal (num (l.drop p))) ∧ RRd w' B v l (refAt p (num (l.drop p))) ∧ Only w w' (fun i => i = B) := by
  obtain ⟨q0, q1, f⟩ := h.cells
  have f1 := f 1
  have HR := hid0 h
  obtain ⟨a, cap, rfl, hba⟩ := h.own.bytesAt.ba
  have HB := hid0 hba
  have hle := h.le
  clear h f hba
  go_enter Tryd.func16, Tryd.ntmps16
  go_wp2
  go_loopw [4, 5, 6] (fun s t i wr => ∃ k n m : Nat, k ≤ 9 ∧ i = .int .i64 (k : Int) ∧ wr = w.drewN m ∧ ((k ≤ 8 ∧ s = .int .i64 (n : Int) ∧ t = .int .i64 ((128 ^ k : Nat) : Int) ∧ n < 128 ^ k ∧ numFrom k n ((l.drop p).drop k) = num (l.drop p)) ∨ (k = 9 ∧ num (l.drop p) = .form))) (fun _ _ i _ => 9 - (intOf i).toNat)
  case atStart => exact ⟨0, 0, 0, by omega, rfl, rfl, .inl ⟨by omega, rfl, rfl, by simp, rfl⟩⟩
  case round =>
    obtain ⟨k, n, m, hk, rfl, rfl, ⟨hk8, rfl, rfl, hn, hnum⟩ | ⟨rfl, hnum⟩⟩ := hrel
    · have HM := hid0 hnum
      clear hnum
      by_cases hlt : p + k < l.length
      · obtain ⟨b, off, rfl, hck⟩ := HB.out.at' (p + k) hlt
        obtain ⟨c, hce⟩ : ∃ c, c = l[p + k] := ⟨_, rfl⟩
        rw [← hce] at hck
        have hc1 := c.toNat_lt
        have hltI : ¬ (l.length : Int) ≤ (p : Int) + (k : Int) := by omega
        clear HB hk
        rcases (by omega : k = 0 ∨ k = 1 ∨ k = 2 ∨ k = 3 ∨ k = 4 ∨ k = 5 ∨ k = 6 ∨ k = 7 ∨ k = 8) with rfl | rfl | rfl | rfl | rfl | rfl | rfl | rfl | rfl
        · have hn' : n < 1 := hn
          have HD : Hid ((l.drop p).drop 0 = c :: (l.drop p).drop (0 + 1)) := by show _ = _; rw [hce, List.drop_eq_getElem_cons (by simp; omega)]; simp
          rw [Nat.add_zero] at hck
          have hltI0 : ¬ (l.length : Int) ≤ (p : Int) := by omega
          clear hn hce
          by_cases h128 : c.toNat < 128
          · have h128I' : c.toNat ≤ 127 := by omega
            by_cases hz : c.toNat = 0
            · have hzI : (c.toNat : Int) = 0 := by omega
              have HF : Hid (num (l.drop p) = .ok (n + c.toNat * 1) (0 + 1)) := by show _ = _; rw [← HM.out, HD.out, numFrom, if_neg (fun h => by omega), if_pos h128, Nat.mod_eq_of_lt h128]
              have h128I : (c.toNat : Int) < 128 := by omega
              clear hz
              go_wp2
              go_quiet ((fail))
              go_wp2
              go_quiet ((fail))
              go_wp2
              go_ret2
              have e1 : ((n + c.toNat * 1 : Nat) : Int) = (n : Int) := by omega
              refine ⟨by rw [HF.out, refVal, e1]; rfl, ?_, (Only.drewN _ _ _).trans (Only.setCell _ B 1 _) (fun i hi => .inl hi)⟩
              rw [HF.out]
              exact (HR.out.drewN _).set' (p + (0 + 1)) _ (by omega) (by omega)
            · have hzI : ((c.toNat : Int) == 0) = false := by simp; omega
              have HF : Hid (num (l.drop p) = .ok (n + c.toNat * 1) (0 + 1)) := by show _ = _; rw [← HM.out, HD.out, numFrom, if_neg (fun h => by omega), if_pos h128, Nat.mod_eq_of_lt h128]
              have h128I : (c.toNat : Int) < 128 := by omega
              clear hz
              go_wp2
              go_quiet ((fail))
              go_wp2
              go_quiet ((fail))
              go_wp2
              go_ret2
              have e1 : ((n + c.toNat * 1 : Nat) : Int) = (n : Int) + (c.toNat : Int) := by omega
              refine ⟨by rw [HF.out, refVal, e1]; rfl, ?_, (Only.drewN _ _ _).trans (Only.setCell _ B 1 _) (fun i hi => .inl hi)⟩
              rw [HF.out]
              exact (HR.out.drewN _).set' (p + (0 + 1)) _ (by omega) (by omega)
          · have h128I : ¬ (c.toNat : Int) < 128 := by omega
            have HF : Hid (numFrom (0 + 1) (n + (c.toNat - 128) * 1) ((l.drop p).drop (0 + 1)) = num (l.drop p)) := by show _ = _; rw [← HM.out, HD.out, numFrom, if_neg (fun h => by omega), if_neg h128, if_neg (by omega), show c.toNat % 128 = c.toNat - 128 by omega]
            go_wp2
            go_quiet ((fail))
            go_wp2
            go_quiet ((fail))
            go_wp2
            go_roundw
            case rel => exact ⟨0 + 1, n + (c.toNat - 128) * 1, _, by omega, by go_num, rfl, .inl ⟨by omega, by go_num, by go_num, by omega, HF.out⟩⟩
            case measure => simp [intOf]
        · have hn' : n < 128 := hn
          have HD : Hid ((l.drop p).drop 1 = c :: (l.drop p).drop (1 + 1)) := by show _ = _; rw [hce, List.drop_eq_getElem_cons (by simp; omega)]; simp
          clear hn hce
          by_cases h128 : c.toNat < 128
          · by_cases hz : c.toNat = 0
            · have HF : Hid (num (l.drop p) = .form) := by show _ = _; rw [← HM.out, HD.out, numFrom, if_pos ⟨hz, by omega⟩]
              have hzI : (c.toNat : Int) = 0 := by omega
              go_wp2
              go_quiet ((fail))
              go_wp2
              go_quiet ((fail))
              go_wp2
              go_ret2
              exact ⟨by rw [HF.out]; rfl, by rw [HF.out]; exact HR.out.drewN _, Only.drewN _ _ _⟩
            · have hzI : ((c.toNat : Int) == 0) = false := by simp; omega
              have HF : Hid (num (l.drop p) = .ok (n + c.toNat * 128) (1 + 1)) := by show _ = _; rw [← HM.out, HD.out, numFrom, if_neg (fun h => hz h.1), if_pos h128, Nat.mod_eq_of_lt h128]
              have h128I : (c.toNat : Int) < 128 := by omega
              clear hz
              go_wp2
              go_quiet ((fail))
              go_wp2
              go_quiet ((fail))
              go_wp2
              go_ret2
              have e1 : ((n + c.toNat * 128 : Nat) : Int) = (n : Int) + (c.toNat : Int) * 128 := by omega
              refine ⟨by rw [HF.out, refVal, e1]; rfl, ?_, (Only.drewN _ _ _).trans (Only.setCell _ B 1 _) (fun i hi => .inl hi)⟩
              rw [HF.out]
              exact (HR.out.drewN _).set' (p + (1 + 1)) _ (by omega) (by omega)
          · have h128I : ¬ (c.toNat : Int) < 128 := by omega
            have HF : Hid (numFrom (1 + 1) (n + (c.toNat - 128) * 128) ((l.drop p).drop (1 + 1)) = num (l.drop p)) := by show _ = _; rw [← HM.out, HD.out, numFrom, if_neg (fun h => by omega), if_neg h128, if_neg (by omega), show c.toNat % 128 = c.toNat - 128 by omega]
            go_wp2
            go_quiet ((fail))
            go_wp2
            go_quiet ((fail))
            go_wp2
            go_roundw
            case rel => exact ⟨1 + 1, n + (c.toNat - 128) * 128, _, by omega, by go_num, rfl, .inl ⟨by omega, by go_num, by go_num, by omega, HF.out⟩⟩
            case measure => simp [intOf]
        · have hn' : n < 16384 := hn
          have HD : Hid ((l.drop p).drop 2 = c :: (l.drop p).drop (2 + 1)) := by show _ = _; rw [hce, List.drop_eq_getElem_cons (by simp; omega)]; simp
          clear hn hce
          by_cases h128 : c.toNat < 128
          · by_cases hz : c.toNat = 0
            · have HF : Hid (num (l.drop p) = .form) := by show _ = _; rw [← HM.out, HD.out, numFrom, if_pos ⟨hz, by omega⟩]
              have hzI : (c.toNat : Int) = 0 := by omega
              go_wp2
              go_quiet ((fail))
              go_wp2
              go_quiet ((fail))
              go_wp2
              go_ret2
              exact ⟨by rw [HF.out]; rfl, by rw [HF.out]; exact HR.out.drewN _, Only.drewN _ _ _⟩
            · have hzI : ((c.toNat : Int) == 0) = false := by simp; omega
              have HF : Hid (num (l.drop p) = .ok (n + c.toNat * 16384) (2 + 1)) := by show _ = _; rw [← HM.out, HD.out, numFrom, if_neg (fun h => hz h.1), if_pos h128, Nat.mod_eq_of_lt h128]
              have h128I : (c.toNat : Int) < 128 := by omega
              clear hz
              go_wp2
              go_quiet ((fail))
              go_wp2
              go_quiet ((fail))
              go_wp2
              go_ret2
              have e1 : ((n + c.toNat * 16384 : Nat) : Int) = (n : Int) + (c.toNat : Int) * 16384 := by omega
              refine ⟨by rw [HF.out, refVal, e1]; rfl, ?_, (Only.drewN _ _ _).trans (Only.setCell _ B 1 _) (fun i hi => .inl hi)⟩
              rw [HF.out]
              exact (HR.out.drewN _).set' (p + (2 + 1)) _ (by omega) (by omega)
          · have h128I : ¬ (c.toNat : Int) < 128 := by omega
            have HF : Hid (numFrom (2 + 1) (n + (c.toNat - 128) * 16384) ((l.drop p).drop (2 + 1)) = num (l.drop p)) := by show _ = _; rw [← HM.out, HD.out, numFrom, if_neg (fun h => by omega), if_neg h128, if_neg (by omega), show c.toNat % 128 = c.toNat - 128 by omega]
            go_wp2
            go_quiet ((fail))
            go_wp2
            go_quiet ((fail))
            go_wp2
            go_roundw
            case rel => exact ⟨2 + 1, n + (c.toNat - 128) * 16384, _, by omega, by go_num, rfl, .inl ⟨by omega, by go_num, by go_num, by omega, HF.out⟩⟩
            case measure => simp [intOf]
        · have hn' : n < 2097152 := hn
          have HD : Hid ((l.drop p).drop 3 = c :: (l.drop p).drop (3 + 1)) := by show _ = _; rw [hce, List.drop_eq_getElem_cons (by simp; omega)]; simp
          clear hn hce
          by_cases h128 : c.toNat < 128
          · by_cases hz : c.toNat = 0
            · have HF : Hid (num (l.drop p) = .form) := by show _ = _; rw [← HM.out, HD.out, numFrom, if_pos ⟨hz, by omega⟩]
              have hzI : (c.toNat : Int) = 0 := by omega
              go_wp2
              go_quiet ((fail))
              go_wp2
              go_quiet ((fail))
              go_wp2
              go_ret2
              exact ⟨by rw [HF.out]; rfl, by rw [HF.out]; exact HR.out.drewN _, Only.drewN _ _ _⟩
            · have hzI : ((c.toNat : Int) == 0) = false := by simp; omega
              have HF : Hid (num (l.drop p) = .ok (n + c.toNat * 2097152) (3 + 1)) := by show _ = _; rw [← HM.out, HD.out, numFrom, if_neg (fun h => hz h.1), if_pos h128, Nat.mod_eq_of_lt h128]
              have h128I : (c.toNat : Int) < 128 := by omega
              clear hz
              go_wp2
              go_quiet ((fail))
              go_wp2
              go_quiet ((fail))
              go_wp2
              go_ret2
              have e1 : ((n + c.toNat * 2097152 : Nat) : Int) = (n : Int) + (c.toNat : Int) * 2097152 := by omega
              refine ⟨by rw [HF.out, refVal, e1]; rfl, ?_, (Only.drewN _ _ _).trans (Only.setCell _ B 1 _) (fun i hi => .inl hi)⟩
              rw [HF.out]
              exact (HR.out.drewN _).set' (p + (3 + 1)) _ (by omega) (by omega)
          · have h128I : ¬ (c.toNat : Int) < 128 := by omega
            have HF : Hid (numFrom (3 + 1) (n + (c.toNat - 128) * 2097152) ((l.drop p).drop (3 + 1)) = num (l.drop p)) := by show _ = _; rw [← HM.out, HD.out, numFrom, if_neg (fun h => by omega), if_neg h128, if_neg (by omega), show c.toNat % 128 = c.toNat - 128 by omega]
            go_wp2
            go_quiet ((fail))
            go_wp2
            go_quiet ((fail))
            go_wp2
            go_roundw
            case rel => exact ⟨3 + 1, n + (c.toNat - 128) * 2097152, _, by omega, by go_num, rfl, .inl ⟨by omega, by go_num, by go_num, by omega, HF.out⟩⟩
            case measure => simp [intOf]
        · have hn' : n < 268435456 := hn
          have HD : Hid ((l.drop p).drop 4 = c :: (l.drop p).drop (4 + 1)) := by show _ = _; rw [hce, List.drop_eq_getElem_cons (by simp; omega)]; simp
          clear hn hce
          by_cases h128 : c.toNat < 128
          · by_cases hz : c.toNat = 0
            · have HF : Hid (num (l.drop p) = .form) := by show _ = _; rw [← HM.out, HD.out, numFrom, if_pos ⟨hz, by omega⟩]
              have hzI : (c.toNat : Int) = 0 := by omega
              go_wp2
              go_quiet ((fail))
              go_wp2
              go_quiet ((fail))
              go_wp2
              go_ret2
              exact ⟨by rw [HF.out]; rfl, by rw [HF.out]; exact HR.out.drewN _, Only.drewN _ _ _⟩
            · have hzI : ((c.toNat : Int) == 0) = false := by simp; omega
              have HF : Hid (num (l.drop p) = .ok (n + c.toNat * 268435456) (4 + 1)) := by show _ = _; rw [← HM.out, HD.out, numFrom, if_neg (fun h => hz h.1), if_pos h128, Nat.mod_eq_of_lt h128]
              have h128I : (c.toNat : Int) < 128 := by omega
              clear hz
              go_wp2
              go_quiet ((fail))
              go_wp2
              go_quiet ((fail))
              go_wp2
              go_ret2
              have e1 : ((n + c.toNat * 268435456 : Nat) : Int) = (n : Int) + (c.toNat : Int) * 268435456 := by omega
              refine ⟨by rw [HF.out, refVal, e1]; rfl, ?_, (Only.drewN _ _ _).trans (Only.setCell _ B 1 _) (fun i hi => .inl hi)⟩
              rw [HF.out]
              exact (HR.out.drewN _).set' (p + (4 + 1)) _ (by omega) (by omega)
          · have h128I : ¬ (c.toNat : Int) < 128 := by omega
            have HF : Hid (numFrom (4 + 1) (n + (c.toNat - 128) * 268435456) ((l.drop p).drop (4 + 1)) = num (l.drop p)) := by show _ = _; rw [← HM.out, HD.out, numFrom, if_neg (fun h => by omega), if_neg h128, if_neg (by omega), show c.toNat % 128 = c.toNat - 128 by omega]
            go_wp2
            go_quiet ((fail))
            go_wp2
            go_quiet ((fail))
            go_wp2
            go_roundw
            case rel => exact ⟨4 + 1, n + (c.toNat - 128) * 268435456, _, by omega, by go_num, rfl, .inl ⟨by omega, by go_num, by go_num, by omega, HF.out⟩⟩
            case measure => simp [intOf]
        · have hn' : n < 34359738368 := hn
          have HD : Hid ((l.drop p).drop 5 = c :: (l.drop p).drop (5 + 1)) := by show _ = _; rw [hce, List.drop_eq_getElem_cons (by simp; omega)]; simp
          clear hn hce
          by_cases h128 : c.toNat < 128
          · by_cases hz : c.toNat = 0
            · have HF : Hid (num (l.drop p) = .form) := by show _ = _; rw [← HM.out, HD.out, numFrom, if_pos ⟨hz, by omega⟩]
              have hzI : (c.toNat : Int) = 0 := by omega
              go_wp2
              go_quiet ((fail))
              go_wp2
              go_quiet ((fail))
              go_wp2
              go_ret2
              exact ⟨by rw [HF.out]; rfl, by rw [HF.out]; exact HR.out.drewN _, Only.drewN _ _ _⟩
            · have hzI : ((c.toNat : Int) == 0) = false := by simp; omega
              have HF : Hid (num (l.drop p) = .ok (n + c.toNat * 34359738368) (5 + 1)) := by show _ = _; rw [← HM.out, HD.out, numFrom, if_neg (fun h => hz h.1), if_pos h128, Nat.mod_eq_of_lt h128]
              have h128I : (c.toNat : Int) < 128 := by omega
              clear hz
              go_wp2
              go_quiet ((fail))
              go_wp2
              go_quiet ((fail))
              go_wp2
              go_ret2
              have e1 : ((n + c.toNat * 34359738368 : Nat) : Int) = (n : Int) + (c.toNat : Int) * 34359738368 := by omega
              refine ⟨by rw [HF.out, refVal, e1]; rfl, ?_, (Only.drewN _ _ _).trans (Only.setCell _ B 1 _) (fun i hi => .inl hi)⟩
              rw [HF.out]
              exact (HR.out.drewN _).set' (p + (5 + 1)) _ (by omega) (by omega)
          · have h128I : ¬ (c.toNat : Int) < 128 := by omega
            have HF : Hid (numFrom (5 + 1) (n + (c.toNat - 128) * 34359738368) ((l.drop p).drop (5 + 1)) = num (l.drop p)) := by show _ = _; rw [← HM.out, HD.out, numFrom, if_neg (fun h => by omega), if_neg h128, if_neg (by omega), show c.toNat % 128 = c.toNat - 128 by omega]
            go_wp2
            go_quiet ((fail))
            go_wp2
            go_quiet ((fail))
            go_wp2
            go_roundw
            case rel => exact ⟨5 + 1, n + (c.toNat - 128) * 34359738368, _, by omega, by go_num, rfl, .inl ⟨by omega, by go_num, by go_num, by omega, HF.out⟩⟩
            case measure => simp [intOf]
        · have hn' : n < 4398046511104 := hn
          have HD : Hid ((l.drop p).drop 6 = c :: (l.drop p).drop (6 + 1)) := by show _ = _; rw [hce, List.drop_eq_getElem_cons (by simp; omega)]; simp
          clear hn hce
          by_cases h128 : c.toNat < 128
          · by_cases hz : c.toNat = 0
            · have HF : Hid (num (l.drop p) = .form) := by show _ = _; rw [← HM.out, HD.out, numFrom, if_pos ⟨hz, by omega⟩]
              have hzI : (c.toNat : Int) = 0 := by omega
              go_wp2
              go_quiet ((fail))
              go_wp2
              go_quiet ((fail))
              go_wp2
              go_ret2
              exact ⟨by rw [HF.out]; rfl, by rw [HF.out]; exact HR.out.drewN _, Only.drewN _ _ _⟩
            · have hzI : ((c.toNat : Int) == 0) = false := by simp; omega
              have HF : Hid (num (l.drop p) = .ok (n + c.toNat * 4398046511104) (6 + 1)) := by show _ = _; rw [← HM.out, HD.out, numFrom, if_neg (fun h => hz h.1), if_pos h128, Nat.mod_eq_of_lt h128]
              have h128I : (c.toNat : Int) < 128 := by omega
              clear hz
              go_wp2
              go_quiet ((fail))
              go_wp2
              go_quiet ((fail))
              go_wp2
              go_ret2
              have e1 : ((n + c.toNat * 4398046511104 : Nat) : Int) = (n : Int) + (c.toNat : Int) * 4398046511104 := by omega
              refine ⟨by rw [HF.out, refVal, e1]; rfl, ?_, (Only.drewN _ _ _).trans (Only.setCell _ B 1 _) (fun i hi => .inl hi)⟩
              rw [HF.out]
              exact (HR.out.drewN _).set' (p + (6 + 1)) _ (by omega) (by omega)
          · have h128I : ¬ (c.toNat : Int) < 128 := by omega
            have HF : Hid (numFrom (6 + 1) (n + (c.toNat - 128) * 4398046511104) ((l.drop p).drop (6 + 1)) = num (l.drop p)) := by show _ = _; rw [← HM.out, HD.out, numFrom, if_neg (fun h => by omega), if_neg h128, if_neg (by omega), show c.toNat % 128 = c.toNat - 128 by omega]
            go_wp2
            go_quiet ((fail))
            go_wp2
            go_quiet ((fail))
            go_wp2
            go_roundw
            case rel => exact ⟨6 + 1, n + (c.toNat - 128) * 4398046511104, _, by omega, by go_num, rfl, .inl ⟨by omega, by go_num, by go_num, by omega, HF.out⟩⟩
            case measure => simp [intOf]
        · have hn' : n < 562949953421312 := hn
          have HD : Hid ((l.drop p).drop 7 = c :: (l.drop p).drop (7 + 1)) := by show _ = _; rw [hce, List.drop_eq_getElem_cons (by simp; omega)]; simp
          clear hn hce
          by_cases h128 : c.toNat < 128
          · by_cases hz : c.toNat = 0
            · have HF : Hid (num (l.drop p) = .form) := by show _ = _; rw [← HM.out, HD.out, numFrom, if_pos ⟨hz, by omega⟩]
              have hzI : (c.toNat : Int) = 0 := by omega
              go_wp2
              go_quiet ((fail))
              go_wp2
              go_quiet ((fail))
              go_wp2
              go_ret2
              exact ⟨by rw [HF.out]; rfl, by rw [HF.out]; exact HR.out.drewN _, Only.drewN _ _ _⟩
            · have hzI : ((c.toNat : Int) == 0) = false := by simp; omega
              have HF : Hid (num (l.drop p) = .ok (n + c.toNat * 562949953421312) (7 + 1)) := by show _ = _; rw [← HM.out, HD.out, numFrom, if_neg (fun h => hz h.1), if_pos h128, Nat.mod_eq_of_lt h128]
              have h128I : (c.toNat : Int) < 128 := by omega
              clear hz
              go_wp2
              go_quiet ((fail))
              go_wp2
              go_quiet ((fail))
              go_wp2
              go_ret2
              have e1 : ((n + c.toNat * 562949953421312 : Nat) : Int) = (n : Int) + (c.toNat : Int) * 562949953421312 := by omega
              refine ⟨by rw [HF.out, refVal, e1]; rfl, ?_, (Only.drewN _ _ _).trans (Only.setCell _ B 1 _) (fun i hi => .inl hi)⟩
              rw [HF.out]
              exact (HR.out.drewN _).set' (p + (7 + 1)) _ (by omega) (by omega)
          · have h128I : ¬ (c.toNat : Int) < 128 := by omega
            have HF : Hid (numFrom (7 + 1) (n + (c.toNat - 128) * 562949953421312) ((l.drop p).drop (7 + 1)) = num (l.drop p)) := by show _ = _; rw [← HM.out, HD.out, numFrom, if_neg (fun h => by omega), if_neg h128, if_neg (by omega), show c.toNat % 128 = c.toNat - 128 by omega]
            go_wp2
            go_quiet ((fail))
            go_wp2
            go_quiet ((fail))
            go_wp2
            go_roundw
            case rel => exact ⟨7 + 1, n + (c.toNat - 128) * 562949953421312, _, by omega, by go_num, rfl, .inl ⟨by omega, by go_num, by go_num, by omega, HF.out⟩⟩
            case measure => simp [intOf]
        · have hn' : n < 72057594037927936 := hn
          have HD : Hid ((l.drop p).drop 8 = c :: (l.drop p).drop (8 + 1)) := by show _ = _; rw [hce, List.drop_eq_getElem_cons (by simp; omega)]; simp
          clear hn hce
          by_cases h128 : c.toNat < 128
          · by_cases hz : c.toNat = 0
            · have HF : Hid (num (l.drop p) = .form) := by show _ = _; rw [← HM.out, HD.out, numFrom, if_pos ⟨hz, by omega⟩]
              have hzI : (c.toNat : Int) = 0 := by omega
              go_wp2
              go_quiet ((fail))
              go_wp2
              go_quiet ((fail))
              go_wp2
              go_ret2
              exact ⟨by rw [HF.out]; rfl, by rw [HF.out]; exact HR.out.drewN _, Only.drewN _ _ _⟩
            · have hzI : ((c.toNat : Int) == 0) = false := by simp; omega
              have HF : Hid (num (l.drop p) = .ok (n + c.toNat * 72057594037927936) (8 + 1)) := by show _ = _; rw [← HM.out, HD.out, numFrom, if_neg (fun h => hz h.1), if_pos h128, Nat.mod_eq_of_lt h128]
              have h128I : (c.toNat : Int) < 128 := by omega
              clear hz
              go_wp2
              go_quiet ((fail))
              go_wp2
              go_quiet ((fail))
              go_wp2
              go_ret2
              have e1 : ((n + c.toNat * 72057594037927936 : Nat) : Int) = (n : Int) + (c.toNat : Int) * 72057594037927936 := by omega
              refine ⟨by rw [HF.out, refVal, e1]; rfl, ?_, (Only.drewN _ _ _).trans (Only.setCell _ B 1 _) (fun i hi => .inl hi)⟩
              rw [HF.out]
              exact (HR.out.drewN _).set' (p + (8 + 1)) _ (by omega) (by omega)
          · have h128I : ¬ (c.toNat : Int) < 128 := by omega
            have HF : Hid (num (l.drop p) = .form) := by show _ = _; rw [← HM.out, HD.out, numFrom, if_neg (fun h => by omega), if_neg h128, if_pos (by omega)]
            go_wp2
            go_quiet ((fail))
            go_wp2
            go_quiet ((fail))
            go_wp2
            go_roundw
            case rel => exact ⟨9, 0, _, by omega, by go_num, rfl, .inr ⟨rfl, HF.out⟩⟩
            case measure => simp [intOf]
      · have hs : num (l.drop p) = .short := by rw [← HM.out, List.drop_of_length_le (by simp; omega)]; rfl
        have HF := hid0 hs
        have hltI : (l.length : Int) ≤ (p : Int) + (k : Int) := by omega
        clear hs hn
        go_wp2
        go_quiet ((fail))
        go_wp2
        go_ret2
        exact ⟨by rw [HF.out]; rfl, by rw [HF.out]; exact (HR.out.drewN _).drewN _, (Only.drewN _ _ _).trans (Only.drewN _ _ _) (fun i hi => .inl hi)⟩
    · have HF := hid0 hnum
      clear hnum
      go_wp2
      go_ret2
      exact ⟨by rw [HF.out]; rfl, by rw [HF.out]; exact HR.out.drewN _, Only.drewN _ _ _⟩
end Go.Proofs.YtnclpcnpaodjjaaDoor
