/-
  The walk of caesuralaw1.CodecLike.
-/
import Derived.Test.YtageiccempcbaaaDoorPartsW
import Derived.Deep.AppendLies
namespace Go.Proofs.YtageiccempcbaaaDoor
open Go.RowKit
/-- Three lists xored together. -/
def xor3 (a b c : List UInt8) : Nat → List UInt8
  | 0 => []
  | k + 1 => xor3 a b c k ++ [a.getD k 0 ^^^ b.getD k 0 ^^^ c.getD k 0]
theorem xor3_length (a b c : List UInt8) (k : Nat) : (xor3 a b c k).length = k := by
  induction k with
  | zero => rfl
  | succ k ih => simp [xor3, ih]
theorem zx_xor (x y : UInt8) : Crc.zx (x ^^^ y) = Crc.zx x ^^^ Crc.zx y := by
  unfold Crc.zx
  apply BitVec.eq_of_toNat_eq
  rw [BitVec.toNat_xor, BitVec.toNat_ofNat, BitVec.toNat_ofNat, BitVec.toNat_ofNat, UInt8.toNat_xor]
  have h1 := x.toNat_lt
  have h2 := y.toNat_lt
  have h3 : x.toNat ^^^ y.toNat < 2 ^ 8 := Nat.xor_lt_two_pow (by omega) (by omega)
  rw [Nat.mod_eq_of_lt (by omega), Nat.mod_eq_of_lt (by omega), Nat.mod_eq_of_lt (by omega)]
theorem stepB_xor3 (r s t : BitVec 32) (x y z : UInt8) : Crc.stepB (r ^^^ s ^^^ t) (x ^^^ y ^^^ z) = Crc.stepB r x ^^^ Crc.stepB s y ^^^ Crc.stepB t z := by
  unfold Crc.stepB
  rw [← Crc.iter_xor, ← Crc.iter_xor, zx_xor, zx_xor]
  congr 1
  apply BitVec.eq_of_getLsbD_eq
  intro i _
  simp only [BitVec.getLsbD_xor]
  cases r.getLsbD i <;> cases s.getLsbD i <;> cases t.getLsbD i <;> cases (Crc.zx x).getLsbD i <;> cases (Crc.zx y).getLsbD i <;> cases (Crc.zx z).getLsbD i <;> rfl
theorem take_snocD (l : List UInt8) (k : Nat) (h : k < l.length) : l.take (k + 1) = l.take k ++ [l.getD k 0] := by
  rw [take_snoc l k h]; simp [h]
theorem reg_xor3 (a b c : List UInt8) (k : Nat) (ha : k ≤ a.length) (hb : k ≤ b.length) (hc : k ≤ c.length) (r : BitVec 32) :
    Crc.reg (r ^^^ r ^^^ r) (xor3 a b c k) = Crc.reg r (a.take k) ^^^ Crc.reg r (b.take k) ^^^ Crc.reg r (c.take k) := by
  induction k with
  | zero => simp [xor3, Crc.reg]
  | succ k ih =>
    rw [xor3, take_snocD a k (by omega), take_snocD b k (by omega), take_snocD c k (by omega), Crc.reg_snoc, Crc.reg_snoc, Crc.reg_snoc, Crc.reg_snoc, ih (by omega) (by omega) (by omega), stepB_xor3]
theorem more_xor3 (a b c : List UInt8) (k : Nat) (ha : k ≤ a.length) (hb : k ≤ b.length) (hc : k ≤ c.length) :
    Crc.more 0#32 (xor3 a b c k) = Crc.more 0#32 (a.take k) ^^^ Crc.more 0#32 (b.take k) ^^^ Crc.more 0#32 (c.take k) := by
  have h := reg_xor3 a b c k ha hb hc (~~~ 0#32)
  rw [show (~~~ 0#32 ^^^ ~~~ 0#32 ^^^ ~~~ 0#32 : BitVec 32) = ~~~ 0#32 from by decide] at h
  unfold Crc.more
  rw [h]
  generalize Crc.reg (~~~ 0#32) (a.take k) = x
  generalize Crc.reg (~~~ 0#32) (b.take k) = y
  generalize Crc.reg (~~~ 0#32) (c.take k) = z
  apply BitVec.eq_of_getLsbD_eq
  intro i hi
  simp only [BitVec.getLsbD_xor, BitVec.getLsbD_not, hi, decide_true, Bool.true_and]
  cases x.getLsbD i <;> cases y.getLsbD i <;> cases z.getLsbD i <;> rfl
theorem Own.far {w : World} {base : Nat} {v : Value} {l : List UInt8} (h : Own w base v l) {n : Nat} (hn : n < base) : some n ≠ v.ownBlock := fun e => by have := h.block_ge e.symm; omega
theorem Own.later {w w' : World} {base : Nat} {v : Value} {l : List UInt8} (h : Own w base v l) (hb : Below w.heap.size w w') : Own w' base v l :=
  (Only.ofBelow hb (fun _ => False) (fun i h1 h2 => by omega)).own h (fun _ _ h => h)
theorem kitBytes_cut (A : ByteArray) (k : Nat) (hk : k ≤ A.size) (hA : A.size ≤ 140737488355328) (w : World) :
    Calls Tryd.prog 13 #[.string (A.extract 0 k)] w fun e w' => ∃ v, e = .returned v ∧ Own w' w.heap.size v (A.data.toList.take k) ∧ Below w.heap.size w w' := by
  have h := kitBytes_any (A.extract 0 k) w w.heap.size (by rw [ByteArray.size_extract]; omega) (Nat.le_refl _)
  have e : (A.extract 0 k).data.toList = A.data.toList.take k := by simp [ByteArray.data_extract]
  rw [e] at h
  exact h
theorem hid {p : Prop} (h : p) : Hid p := h
theorem u8_xor_u8 (x y : UInt8) : bits .xor .u8 (x.toNat : Int) (y.toNat : Int) = ((x ^^^ y).toNat : Int) := by
  rw [u8_xor_nat _ _ x.toNat_lt y.toNat_lt, UInt8.toNat_xor]
set_option maxRecDepth 10000 in
set_option maxHeartbeats 1600000 in
theorem like_walk (A B C : ByteArray) (w : World) (hA : A.size ≤ 140737488351232) (hB : B.size ≤ 140737488351232) (hC : C.size ≤ 140737488351232) (ht : TabAt w) :
    Calls Tryd.prog 5 #[.agg #[.string A, .string B, .string C]] w fun e w' => e = .returned (.bool true) ∧ Below w.heap.size w w' := by
  obtain ⟨i0, hi, hz0, hz1, hz2⟩ := info_parts infoU8
  have HL1 : Hid (Later w w.heap.size (.string A) (.string B) (.string C) (w.alloc (.cells #[.string A, .string B, .string C] 37))) := Later.start ht
  clear ht
  obtain ⟨N, hNA, hNB, hNC, hN⟩ : ∃ N : Nat, N ≤ A.size ∧ N ≤ B.size ∧ N ≤ C.size ∧ (if (C.size : Int) < (if (B.size : Int) < (A.size : Int) then (B.size : Int) else (A.size : Int)) then (C.size : Int) else (if (B.size : Int) < (A.size : Int) then (B.size : Int) else (A.size : Int))) = (N : Int) := by
    refine ⟨min (min A.size B.size) C.size, by omega, by omega, by omega, ?_⟩
    split <;> split <;> omega
  have hmin : ∀ ts t w, (Builtin.min_ ts t #[.int .i64 (A.size : Int), .int .i64 (B.size : Int), .int .i64 (C.size : Int)]).run Tryd.prog w = .ok (.int .i64 (N : Int)) w := fun ts t w => by rw [run_min_int3, hN]
  clear hN
  go_enter Tryd.func5, Tryd.ntmps5
  go_wp2_with (first
    | (go_at_call 17; have hq := HL1.out; clear HL1; refine (known_any _ hq.tab).mono ?_; rintro e w2 ⟨rfl, hb2⟩; have HL2 : Hid (Later w w.heap.size (.string A) (.string B) (.string C) w2) := hq.next hb2; obtain ⟨c0, c1, c2⟩ := HL2.out.box; clear hq hb2)
    | fail)
  have hpos : w.heap.size < w2.heap.size := HL2.out.lt
  clear c0 c1 c2 hmin
  go_loopw [5, 6] (fun v i wr => ∃ k : Nat, k ≤ N ∧ i = .int .i64 k ∧ Own wr w2.heap.size v (xor3 A.data.toList B.data.toList C.data.toList k) ∧ Below w2.heap.size w2 wr)
    (fun _ i _ => N - (intOf i).toNat)
  case atStart => exact ⟨0, Nat.zero_le _, rfl, World.ownsRow_nil _ _ _ _, Below.refl _ _⟩
  case round =>
    obtain ⟨k, hk, rfl, hown, hbel⟩ := hrel
    have HLr : Hid (Later w w.heap.size (.string A) (.string B) (.string C) wr) := HL2.out.next hbel
    obtain ⟨c0, c1, c2⟩ := HLr.out.box
    by_cases hlt : k < N
    · have e1 := u8_xor_u8 A[k] B[k]
      have e2 := u8_xor_u8 (A[k] ^^^ B[k]) C[k]
      have HX : Hid (((A[k] ^^^ B[k] ^^^ C[k]).toNat : Int) = ((A[k].toNat ^^^ B[k].toNat ^^^ C[k].toNat : Nat) : Int)) := by show _ = _; rw [UInt8.toNat_xor, UInt8.toNat_xor]
      simp only [UInt8.toNat_xor] at e1 e2
      have HN : Hid (xor3 A.data.toList B.data.toList C.data.toList (k + 1) = xor3 A.data.toList B.data.toList C.data.toList k ++ [A[k] ^^^ B[k] ^^^ C[k]]) := by
        show _ = _
        rw [xor3]
        congr 2
        simp [show k < A.size by omega, show k < B.size by omega, show k < C.size by omega]
        rfl
      have hlen := xor3_length A.data.toList B.data.toList C.data.toList k
      have hsz := hbel.size
      have HO := hid hown
      have HF := hid (hown.far hpos)
      have ka : (k : Int) < (A.size : Int) := by omega
      have kb : (k : Int) < (B.size : Int) := by omega
      have kc : (k : Int) < (C.size : Int) := by omega
      have k0 : (0 : Int) ≤ (k : Int) := by omega
      clear hown
      go_wp2
      go_region_held3 (fun w' => w'.cell? ⟨w.heap.size, 0, none⟩ = some (.string A) ∧ w'.cell? ⟨w.heap.size, 1, none⟩ = some (.string B) ∧ w'.cell? ⟨w.heap.size, 2, none⟩ = some (.string C)) (first | go_keep | (go_split_ands; refine ⟨?_, ?_, ?_⟩ <;> (rw [hgrow.cell_far _ (by simp; omega) HF.out]; assumption)))
        ((refine step_append_lies _ (by rfl) _ _ _ (by rfl) w2.heap.size 5 i0 (.int .u8 0) 1 1 Tryd.underlying25 hi hz0 hz1 hz2 rfl (by omega) _ _ _ (by rfl) ((HO.out.alloc _).drew) ⟨wr.heap.size, 0, none⟩ 1 1 [.int .u8 ((A[k].toNat ^^^ B[k].toNat ^^^ C[k].toNat : Nat) : Int)] (by rfl) (by rfl) (World.news_of_block (cs := #[.int .u8 ((A[k].toNat ^^^ B[k].toNat ^^^ C[k].toNat : Nat) : Int)]) (t := 5) (fr := (0, 0)) (heap_alloc_new wr _)) (by simp [Value.oneCell']) (by omega) (by rw [hlen]; unfold maxLen; omega) (by rw [hlen]; omega) (by simp; omega) (wr.heap.size + 1) (by simp) ?_; intro gg cap w1 hown1 hgrow hat hlt1))
      all_goals
        rw [← HX.out] at hown1
        have R := own_snoc rfl HO.out hown1 (o := .cells #[.int .u8 ((A[k].toNat ^^^ B[k].toNat ^^^ C[k].toNat : Nat) : Int)] 5) ⟨hgrow.os, hgrow.tape, hgrow.output, hgrow.size, hgrow.block⟩ HN.out hbel (Nat.le_refl _)
        rw [hlen] at R
        have HR := hid R
        clear R hown1 hgrow hat hlt1 hbel
        go_wp2
        go_roundw
        case rel => exact ⟨k + 1, by omega, by go_num, HR.out.1, HR.out.2⟩
        case measure => simp [intOf]; omega
    · have hkN : k = N := by omega
      subst hkN
      have HO := hid hown
      have HLs : Hid (TabAt wr) := HLr.out.tab
      have hgt := HLr.out.lt
      have HB0 := hid (HL2.out.bel.trans (hbel.mono HL2.out.bel.size))
      clear hown hbel c0 c1 c2 hpos HL2
      have hXa := kitBytes_cut A k hNA (by omega)
      have hXb := kitBytes_cut B k hNB (by omega)
      have hXc := kitBytes_cut C k hNC (by omega)
      obtain ⟨c0, c1, c2⟩ := HLr.out.box
      go_wp2_with (first
        | (go_at_call 13; have hq := HLr.out; clear HLr; refine (hXa _).mono ?_; rintro e w3 ⟨v3, rfl, ho3, hb3⟩; have HL3 := hid (hq.next hb3); have HO3 := hid ho3.bytesAt; have HP3 := hid (HO.out.later hb3); obtain ⟨d0, d1, d2⟩ := HL3.out.box; clear hq hb3 ho3 HO)
        | (go_at_call 10; have hq := HO3.out; clear HO3; refine (crc_any (A.data.toList.take k) _ _ (by simp; omega) HL3.out.tab hq).mono ?_; rintro e w4 ⟨rfl, rfl⟩)
        | (go_at_call 13; have hq := HL3.out; clear HL3; refine (hXb _).mono ?_; rintro e w5 ⟨v5, rfl, ho5, hb5⟩; have HL5 := hid (hq.next hb5); have HO5 := hid ho5.bytesAt; have HP5 := hid (HP3.out.later hb5); obtain ⟨e0, e1, e2⟩ := HL5.out.box; clear hq hb5 ho5 HP3)
        | (go_at_call 10; have hq := HO5.out; clear HO5; refine (crc_any (B.data.toList.take k) _ _ (by simp; omega) HL5.out.tab hq).mono ?_; rintro e w6 ⟨rfl, rfl⟩)
        | (go_at_call 13; have hq := HL5.out; clear HL5; refine (hXc _).mono ?_; rintro e w7 ⟨v7, rfl, ho7, hb7⟩; have HL7 := hid (hq.next hb7); have HO7 := hid ho7.bytesAt; have HP7 := hid (HP5.out.later hb7); clear hq hb7 ho7 HP5)
        | (go_at_call 10; have hq := HO7.out; clear HO7; refine (crc_any (C.data.toList.take k) _ _ (by simp; omega) HL7.out.tab hq).mono ?_; rintro e w8 ⟨rfl, rfl⟩)
        | (go_at_call 10; have hq := HP7.out; clear HP7; have hm := crc_any (xor3 A.data.toList B.data.toList C.data.toList k) _ _ (by rw [xor3_length]; omega) HL7.out.tab hq.bytesAt; rw [more_xor3 _ _ _ k (by simpa using hNA) (by simpa using hNB) (by simpa using hNC), ← Crc.u_xor, ← Crc.u_xor] at hm; refine hm.mono ?_; clear hm; rintro e w9 ⟨rfl, rfl⟩)
        | fail)
      go_ret
      exact ⟨by simp, HL7.out.bel⟩
end Go.Proofs.YtageiccempcbaaaDoor
