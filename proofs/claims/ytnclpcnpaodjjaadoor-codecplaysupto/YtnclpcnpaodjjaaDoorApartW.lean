/-
  The walk of caesuralaw1.apart.
-/
import Derived.Test.YtnclpcnpaodjjaaDoorSameW
namespace Go.Proofs.YtnclpcnpaodjjaaDoor
open Go.RowKit
theorem Own.later {w w' : World} {base : Nat} {v : Value} {l : List UInt8} (h : Own w base v l) (hb : Below w.heap.size w w') : Own w' base v l :=
  (Only.ofBelow hb (fun _ => False) (fun i h1 h2 => by omega)).own h (fun _ _ h => h)
theorem Own.drewN {w : World} {base : Nat} {v : Value} {l : List UInt8} (h : Own w base v l) (k : Nat) : Own (w.drewN k) base v l := h
theorem fill_at (l : List UInt8) (m : UInt8) (c : Int) (hc : c = (m.toNat : Int)) (v : Value) (w : World) (hl : l.length ≤ 140737488351232) (ho : Own w 0 v l) :
    Calls Tryd.prog 35 #[v, .int .u8 c] w fun e w' => ∃ v', e = .returned v' ∧ Own w' 0 v' (List.replicate (l.length + 64) m) ∧ Only w w' (fun k => v.ownBlock = some k) ∧ (∀ k, v'.ownBlock = some k → v.ownBlock = some k ∨ w.heap.size ≤ k) := by
  subst hc
  exact fill_any l m v w hl ho
theorem full_at (n : Nat) (m : UInt8) (c : Int) (hc : c = (m.toNat : Int)) (v : Value) (w : World) (hl : n ≤ 140737488355328) (ho : Own w 0 v (List.replicate n m)) :
    Calls Tryd.prog 36 #[v, .int .u8 c] w fun e w' => e = .returned (.bool true) ∧ w' = w := by
  subst hc
  obtain ⟨a, ca, rfl, hb⟩ := ho.bytesAt.ba
  exact full_ba _ m (fun c hc => List.eq_of_mem_replicate hc) a ca w (by simpa using hl) hb
theorem same_at (l : List UInt8) (va vb : Value) (w : World) (hl : l.length ≤ 140737488355328) (ha : Own w 0 va l) (hb : Own w 0 vb l) :
    Calls Tryd.prog 34 #[va, vb] w fun e w' => e = .returned (.bool true) ∧ ∃ n, w' = w.drewN n := by
  obtain ⟨a, ca, rfl, ha'⟩ := ha.bytesAt.ba
  obtain ⟨b, cb, rfl, hb'⟩ := hb.bytesAt.ba
  exact same_ba l a b ca cb w hl ha' hb'
set_option maxRecDepth 10000 in
set_option maxHeartbeats 800000 in
theorem apart_any (B : Nat) (v want : Value) (l : List UInt8) (w : World) (hl : l.length ≤ 140737488351168) (hW : Wr w B v l) (ho : Own w 0 want l) :
    Calls Tryd.prog 25 #[.pointer (some ⟨B, 0, none⟩), want] w fun e w' => e = .returned (.bool true) ∧ Below w.heap.size w w' := by
  have HW1 := hid0 hW
  have HO := hid0 ho
  have HL := hid0 hl
  have HB : Hid (∀ k, want.ownBlock = some k → k < w.heap.size) := fun k hk => ho.block_lt hk
  clear hW ho hl
  go_enter Tryd.func25, Tryd.ntmps25
  go_wp2_with (first
    | (go_at_call 33; have hq := HW1.out; clear HW1; refine (wrBytes_any _ _ _ _ hq (by have := HL.out; omega)).mono ?_; rintro e w1 ⟨p, rfl, ho1, hb1⟩; have HP1 := hid0 ho1; have HB1 := hid0 hb1; have HW2 := hid0 (hq.below hb1); have HO1 := hid0 (HO.out.later hb1); clear hq ho1 hb1)
    | (go_at_call 33; have hq := HW2.out; clear HW2; refine (wrBytes_any _ _ _ _ hq (by have := HL.out; omega)).mono ?_; rintro e w2 ⟨q, rfl, ho2, hb2⟩; have HQ2 := hid0 ho2; have HB2 := hid0 hb2; have HP2 := hid0 (HP1.out.later hb2); have HO2 := hid0 (HO1.out.later hb2); have HS1 : Hid True := trivial; clear hq ho2 hb2)
    | (go_at_call 34; have hq := HS1; clear HS1; refine (same_at l _ _ _ (by have := HL.out; omega) (HP2.out.base_le (Nat.zero_le _)) HO2.out).mono ?_; rintro e w3 ⟨rfl, n3, rfl⟩; have HS2 : Hid True := trivial; clear hq)
    | (go_at_call 34; have hq := HS2; clear HS2; refine (same_at l _ _ _ (by have := HL.out; omega) ((HQ2.out.drewN _).base_le (Nat.zero_le _)) (HO2.out.drewN _)).mono ?_; rintro e w4 ⟨rfl, n4, rfl⟩; have HF1 : Hid True := trivial; clear hq)
    | (go_at_call 35; (have hq := HF1; clear HF1; refine (fill_at l 99 99 rfl p _ (by have := HL.out; omega) ((HP2.out.drewN _).base_le (Nat.zero_le _))).mono ?_; rintro e w5 ⟨p', rfl, ho5, hy5, hn5⟩; have HP5 := hid0 ho5; have HY5 := hid0 hy5; have HN5 := hid0 hn5; have HS3 : Hid True := trivial; have HQ5 := hid0 (hy5.own (HQ2.out.drewN (n3 + n4)) (fun k hk hp => absurd (HP1.out.block_lt hp) (Nat.not_lt.2 (HQ2.out.block_ge hk)))); have HO5 := hid0 (hy5.own (HO2.out.drewN (n3 + n4)) (fun k hk hp => absurd (HB.out k hk) (Nat.not_lt.2 (HP1.out.block_ge hp)))); clear hq ho5 hy5 hn5))
    | (go_at_call 34; have hq := HS3; clear HS3; refine (same_at l _ _ _ (by have := HL.out; omega) (HQ5.out.base_le (Nat.zero_le _)) HO5.out).mono ?_; rintro e w6 ⟨rfl, n6, rfl⟩; have HF2 : Hid True := trivial; clear hq)
    | (go_at_call 35; have hq := HF2; clear HF2; refine (fill_at l 98 98 rfl q _ (by have := HL.out; omega) ((HQ5.out.drewN _).base_le (Nat.zero_le _))).mono ?_; rintro e w7 ⟨q', rfl, ho7, hy7, hn7⟩; have HQ7 := hid0 ho7; have HY7 := hid0 hy7; have HU1 : Hid True := trivial; have HP7 := hid0 (hy7.own (HP5.out.drewN n6) (fun k hk hp => (HN5.out k hk).elim (fun h => absurd (HP1.out.block_lt h) (Nat.not_lt.2 (HQ2.out.block_ge hp))) (fun h => absurd (HQ2.out.block_lt hp) (Nat.not_lt.2 h)))); clear hq ho7 hy7 hn7)
    | (go_at_call 36; have hq := HU1; clear HU1; refine (full_at _ 99 99 rfl _ _ (by have := HL.out; omega) HP7.out).mono ?_; rintro e w8 ⟨rfl, rfl⟩; have HU2 : Hid True := trivial; clear hq)
    | (go_at_call 36; have hq := HU2; clear HU2; refine (full_at _ 98 98 rfl _ _ (by have := HL.out; omega) HQ7.out).mono ?_; rintro e w9 ⟨rfl, rfl⟩; clear hq)
    | fail)
  go_ret
  have b2 : Below w.heap.size w w2 := HB1.out.trans (HB2.out.mono HB1.out.size)
  have b5 : Below w.heap.size w w5 := (below_drewN b2 (n3 + n4)).trans (HY5.out.below b2.size (fun i hi => HP1.out.block_ge hi))
  exact ⟨rfl, (below_drewN b5 n6).trans (HY7.out.below b5.size (fun i hi => Nat.le_trans HB1.out.size (HQ2.out.block_ge hi)))⟩
end Go.Proofs.YtnclpcnpaodjjaaDoor
