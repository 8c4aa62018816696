/-
  The walk of caesuralaw1.CodecBursts.
-/
import Derived.Test.YtageiccempcbaaaDoorLikeW
import Derived.Test.YtageiccempcbaaaDoorBurst
namespace Go.Proofs.YtageiccempcbaaaDoor
open Go.RowKit
set_option maxRecDepth 10000 in
theorem pick_any (k : Int) (n : Nat) (hn : n ≤ 1125899906842624) (w : World) :
    Calls Tryd.prog 18 #[.int .i64 k, .int .i64 (n : Int)] w fun e w' => ∃ a : Nat, e = .returned (.int .i64 (a : Int)) ∧ a ≤ n ∧ w' = w := by
  by_cases h1 : n < 1
  · go_enter Tryd.func18, Tryd.ntmps18
    go_wp2
    go_ret
    exact ⟨0, rfl, by omega, rfl⟩
  · have hm1 : k.tmod n < n := Int.tmod_lt_of_pos k (by omega)
    have hm2 : -(n : Int) < k.tmod n := by
      have := Int.lt_tmod_of_pos k (show (0 : Int) < n by omega)
      omega
    by_cases h2 : k.tmod n < 0
    · go_enter Tryd.func18, Tryd.ntmps18
      go_wp2
      go_ret
      exact ⟨(k.tmod n + n).toNat, congrArg (fun x => Ending.returned (.int .i64 x)) (by omega), by omega, rfl⟩
    · go_enter Tryd.func18, Tryd.ntmps18
      go_wp2
      go_ret
      exact ⟨(k.tmod n).toNat, congrArg (fun x => Ending.returned (.int .i64 x)) (by omega), by omega, rfl⟩
/-- What Bytes and Copy hand back, the length told. -/
theorem kitBytes_at (s : ByteArray) (w : World) (hs : s.size ≤ 140737488355328) :
    Calls Tryd.prog 13 #[.string s] w fun e w' => ∃ a cap, e = .returned (.slice a s.size cap) ∧ Own w' w.heap.size (.slice a s.size cap) s.data.toList ∧ Below w.heap.size w w' := by
  refine (kitBytes_any s w w.heap.size hs (Nat.le_refl _)).mono ?_
  rintro e w' ⟨v, rfl, ho, hb⟩
  have hl : s.data.toList.length = s.size := by simp
  rcases ho.2 with ⟨rfl, hn⟩ | ⟨g, cap, cur, rfl, _⟩
  · rw [hl] at hn
    refine ⟨none, 0, by rw [hn], ?_, hb⟩
    rw [hn]; exact ho
  · rw [hl] at ho ⊢
    exact ⟨_, _, rfl, ho, hb⟩
theorem kitCopy_at (l : List UInt8) (n : Nat) (hn' : l.length = n) (v : Value) (w : World) (hs : l.length ≤ 140737488355328) (hv : BytesAt w v l) (hm : InMem w v) :
    Calls Tryd.prog 16 #[v] w fun e w' => ∃ a cap, e = .returned (.slice a n cap) ∧ Own w' w.heap.size (.slice a n cap) l ∧ Below w.heap.size w w' := by
  subst hn'
  refine (kitCopy_any l v w hs hv hm).mono ?_
  rintro e w' ⟨v', rfl, ho, hb⟩
  rcases ho.2 with ⟨rfl, hn⟩ | ⟨g, cap, cur, rfl, _⟩
  · refine ⟨none, 0, by rw [hn], ?_, hb⟩
    rw [hn]; exact ho
  · exact ⟨_, _, rfl, ho, hb⟩
theorem shift_bit (t : BitVec 32) (j : Nat) : bits .and .u32 (Crc.u t / 2 ^ j) 1 = if t.getLsbD j = true then 1 else 0 := by
  have e : Crc.u t / 2 ^ j = Crc.u (t >>> j) := by
    unfold Crc.u
    rw [BitVec.toNat_ushiftRight, Nat.shiftRight_eq_div_pow, Int.natCast_ediv]
    simp
  rw [e, Crc.u_and1, Crc.and_one, BitVec.getLsbD_ushiftRight, Nat.add_zero]
  cases t.getLsbD j <;> rfl
theorem xor_pow (c : UInt8) (m : Nat) (hm : m < 8) : bits .xor .u8 (c.toNat : Int) ((2 : Int) ^ m % 256) = ((c ^^^ UInt8.ofNat (2 ^ m)).toNat : Int) := by
  have h : (2 : Nat) ^ m < 256 := by
    have : (2 : Nat) ^ m ≤ 2 ^ 7 := Nat.pow_le_pow_right (by omega) (by omega)
    omega
  have e : ((2 : Int) ^ m % 256) = ((UInt8.ofNat (2 ^ m)).toNat : Int) := by
    have e3 : ((2 : Int) ^ m) = ((2 ^ m : Nat) : Int) := by rw [Int.natCast_pow]; rfl
    rw [u8_toNat _ h, e3]
    generalize 2 ^ m = x at h
    omega
  rw [e]
  exact u8_xor_u8 c _
/-- What lay in an elder world lies on, below what was made since. -/
theorem Own.below_own {w w0 w' : World} {base : Nat} {v : Value} {l : List UInt8} (h : Own w base v l) (hb : Below w0.heap.size w w') (hm : InMem w0 v) : Own w' base v l := by
  refine ⟨h.1, ?_⟩
  rcases h.2 with h2 | ⟨g, cap, cur, rfl, hg, hh, r⟩
  · exact .inl h2
  · exact .inr ⟨g, cap, cur, rfl, hg, (hb.block g (hm _ _ _ _ rfl)).trans hh, r⟩
/-- One bit turned. -/
def flip (l : List UInt8) (b : Nat) : List UInt8 := l.set (b / 8) (l.getD (b / 8) 0 ^^^ UInt8.ofNat (2 ^ (b % 8)))
/-- The list behind i rounds; whether a bit was turned. -/
def turned (t : BitVec 32) (a : Nat) (l : List UInt8) : Nat → List UInt8
  | 0 => l
  | i + 1 => if t.getLsbD i = true ∧ a + i < 8 * l.length then flip (turned t a l i) (a + i) else turned t a l i
def anyTurned (t : BitVec 32) (a : Nat) (l : List UInt8) : Nat → Bool
  | 0 => false
  | i + 1 => if t.getLsbD i = true ∧ a + i < 8 * l.length then true else anyTurned t a l i
theorem turned_length (t : BitVec 32) (a : Nat) (l : List UInt8) (i : Nat) : (turned t a l i).length = l.length := by
  induction i with
  | zero => rfl
  | succ i ih => rw [turned]; split <;> simp [flip, ih]
theorem pow_bit (k j : Nat) (hk : k < 8) : (UInt8.ofNat (2 ^ k)).toNat.testBit j = decide (j = k) := by
  have h : (2 : Nat) ^ k < 256 := by
    have : (2 : Nat) ^ k ≤ 2 ^ 7 := Nat.pow_le_pow_right (by omega) (by omega)
    omega
  rw [UInt8.toNat_ofNat', Nat.mod_eq_of_lt (by simpa using h), Nat.testBit_two_pow]
  congr 1
  exact propext ⟨fun h => h.symm, fun h => h.symm⟩
theorem bitAt_flip (l : List UInt8) (b c : Nat) (hb : b < 8 * l.length) : Crc.bitAt (flip l b) c = (Crc.bitAt l c ^^ decide (c = b)) := by
  unfold Crc.bitAt flip
  have hlt : b / 8 < l.length := by omega
  by_cases h : c / 8 = b / 8
  · rw [h]
    simp only [List.getD_eq_getElem?_getD, List.getElem?_set_self hlt, Option.getD_some]
    rw [UInt8.toNat_xor, Nat.testBit_xor, pow_bit _ _ (by omega)]
    congr 1
    congr 1
    exact propext ⟨fun _ => by omega, fun _ => by omega⟩
  · have hcb : ¬ c = b := fun e => h (by rw [e])
    simp only [List.getD_eq_getElem?_getD, List.getElem?_set_ne (Ne.symm h), hcb, decide_false, Bool.xor_false]
theorem bitAt_turned (t : BitVec 32) (a : Nat) (l : List UInt8) (i : Nat) (c : Nat) :
    Crc.bitAt (turned t a l i) c = (Crc.bitAt l c ^^ (decide (a ≤ c ∧ c < a + i ∧ c < 8 * l.length) && t.getLsbD (c - a))) := by
  induction i with
  | zero =>
    have : ¬ (a ≤ c ∧ c < a + 0 ∧ c < 8 * l.length) := by omega
    rw [decide_eq_false this]; simp [turned]
  | succ i ih =>
    rw [turned]
    by_cases hc : t.getLsbD i = true ∧ a + i < 8 * l.length
    · rw [if_pos hc, bitAt_flip _ _ _ (by rw [turned_length]; exact hc.2), ih]
      by_cases e : c = a + i
      · subst e
        have h1 : ¬ (a ≤ a + i ∧ a + i < a + i ∧ a + i < 8 * l.length) := by omega
        have h2 : a ≤ a + i ∧ a + i < a + (i + 1) ∧ a + i < 8 * l.length := by omega
        simp [h2, hc.1]
      · have h3 : decide (a ≤ c ∧ c < a + (i + 1) ∧ c < 8 * l.length) = decide (a ≤ c ∧ c < a + i ∧ c < 8 * l.length) := by
          congr 1; exact propext ⟨fun _ => by omega, fun _ => by omega⟩
        rw [h3]
        simp [e]
    · rw [if_neg hc, ih]
      by_cases e : c = a + i
      · subst e
        have h1 : ¬ (a ≤ a + i ∧ a + i < a + i ∧ a + i < 8 * l.length) := by omega
        rw [show a + i - a = i by omega]
        by_cases h8 : a + i < 8 * l.length
        · have : t.getLsbD i = false := by cases h : t.getLsbD i with | false => rfl | true => exact absurd ⟨h, h8⟩ hc
          simp [this]
        · simp [h8]
      · have h3 : decide (a ≤ c ∧ c < a + (i + 1) ∧ c < 8 * l.length) = decide (a ≤ c ∧ c < a + i ∧ c < 8 * l.length) := by
          congr 1; exact propext ⟨fun _ => by omega, fun _ => by omega⟩
        rw [h3]
theorem anyTurned_some (t : BitVec 32) (a : Nat) (l : List UInt8) (i : Nat) (h : anyTurned t a l i = true) : ∃ c, a ≤ c ∧ c < a + i ∧ c < 8 * l.length ∧ t.getLsbD (c - a) = true := by
  induction i with
  | zero => simp [anyTurned] at h
  | succ i ih =>
    rw [anyTurned] at h
    by_cases hc : t.getLsbD i = true ∧ a + i < 8 * l.length
    · exact ⟨a + i, by omega, by omega, hc.2, by rw [show a + i - a = i by omega]; exact hc.1⟩
    · rw [if_neg hc] at h
      obtain ⟨c, h1, h2, h3, h4⟩ := ih h
      exact ⟨c, h1, by omega, h3, h4⟩
/-- The law's own sentence. -/
theorem turned_sum (t : BitVec 32) (a : Nat) (l : List UInt8) (h : anyTurned t a l 32 = true) : Crc.more 0#32 l ≠ Crc.more 0#32 (turned t a l 32) := by
  obtain ⟨c, h1, h2, h3, h4⟩ := anyTurned_some t a l 32 h
  refine Crc.more_burst l _ a c (turned_length t a l 32) (fun b hb => ?_) (fun b hb => ?_) ?_ h3
  · rw [bitAt_turned]
    have : ¬ (a ≤ b ∧ b < a + 32 ∧ b < 8 * l.length) := by omega
    simp [this]
  · rw [bitAt_turned]
    have : ¬ (a ≤ b ∧ b < a + 32 ∧ b < 8 * l.length) := by omega
    simp [this]
  · rw [bitAt_turned]
    have : a ≤ c ∧ c < a + 32 ∧ c < 8 * l.length := ⟨h1, h2, h3⟩
    simp [this, h4]
set_option maxRecDepth 10000 in
set_option maxHeartbeats 1600000 in
theorem bursts_walk (P : ByteArray) (k : Int) (t : BitVec 32) (w : World) (hP : P.size ≤ 140737488351232) (ht : TabAt w) :
    Calls Tryd.prog 6 #[.agg #[.string P, .int .i64 k, .int .u32 (Crc.u t)]] w fun e w' => e = .returned (.bool true) ∧ Below w.heap.size w w' := by
  have HL1 : Hid (Later w w.heap.size (.string P) (.int .i64 k) (.int .u32 (Crc.u t)) (w.alloc (.cells #[.string P, .int .i64 k, .int .u32 (Crc.u t)] 40))) := Later.start ht
  clear ht
  have hPick := fun W => pick_any k (8 * P.size) (by omega) W
  have e8 : ((8 * P.size : Nat) : Int) = 8 * (P.size : Int) := by omega
  simp only [e8] at hPick
  clear e8
  go_enter Tryd.func6, Tryd.ntmps6
  go_wp2_with (first
    | (go_at_call 17; have hq := HL1.out; clear HL1; refine (known_any _ hq.tab).mono ?_; rintro e w2 ⟨rfl, hb2⟩; have HL2 := hid (hq.next hb2); obtain ⟨c0, c1, c2⟩ := HL2.out.box; clear hq hb2)
    | (go_at_call 13; have hq := HL2.out; clear HL2; refine (kitBytes_at P _ (by omega)).mono ?_; rintro e w3 ⟨a3, cap3, rfl, ho3, hb3⟩; have HL3 := hid (hq.next hb3); have HO3 := hid ho3; obtain ⟨d0, d1, d2⟩ := HL3.out.box; clear hq hb3 ho3)
    | (go_at_call 16; have hq := HL3.out; clear HL3; refine (kitCopy_at P.data.toList P.size (by simp) _ _ (by simp; omega) HO3.out.bytesAt HO3.out.inMem).mono ?_; rintro e w4 ⟨a4, cap4, rfl, ho4, hb4⟩; have HL4 := hid (hq.next hb4); have HLt := hid hq.lt; have HO4 := hid ho4; have HP4 := hid (HO3.out.later hb4); obtain ⟨f0, f1, f2⟩ := HL4.out.box; have HQ4 := hid (HO3.out.inMem); clear hq hb4 ho4 HO3)
    | (go_at_call 18; refine (hPick _).mono ?_; rintro e w5 ⟨a, rfl, ha, rfl⟩)
    | fail)
  have hlen : P.data.toList.length = P.size := by simp
  have hbase : w.heap.size < w3.heap.size := HLt.out
  clear c0 c1 c2 d0 d1 d2 f0 f1 f2 hPick
  go_loopw [7, 8] (fun s i wr => ∃ j : Nat, j ≤ 32 ∧ i = .int .i64 j ∧ s = .bool (anyTurned t a P.data.toList j) ∧ Own wr w3.heap.size (.slice a4 P.size cap4) (turned t a P.data.toList j) ∧ Below w3.heap.size w5 wr)
    (fun _ i _ => 32 - (intOf i).toNat)
  case atStart => exact ⟨0, Nat.zero_le _, rfl, rfl, HO4.out, Below.refl _ _⟩
  case round =>
    obtain ⟨j, hj, rfl, rfl, hown, hbel⟩ := hrel
    have HLr := hid (box3_keep hbel hbase HL4.out.box)
    obtain ⟨c0, c1, c2⟩ := HLr.out
    by_cases hlt : j < 32
    · by_cases hb : a + j < 8 * P.size
      · by_cases hc : t.getLsbD j = true
        · have htst : (bits .and .u32 (Crc.u t / 2 ^ j) 1 == 1) = true := by rw [shift_bit t j, hc]; rfl
          obtain ⟨g, rfl⟩ : ∃ g, a4 = some ⟨g, 0, none⟩ := by
            rcases hown.2 with ⟨h, h0⟩ | ⟨g, cap, cur, h, _⟩
            · rw [turned_length, hlen] at h0; omega
            · simp only [Value.slice.injEq] at h; exact ⟨g, h.1⟩
          have hlt8 : (a + j) / 8 < (turned t a P.data.toList j).length := by rw [turned_length, hlen]; omega
          have hck := hown.cell ((a + j) / 8) hlt8
          rw [Nat.zero_add] at hck
          have hfz := hown.free ((a + j) / 8)
          have hcd : (turned t a P.data.toList j).getD ((a + j) / 8) 0 = (turned t a P.data.toList j)[(a + j) / 8] := by simp [hlt8]
          rw [← hcd] at hck
          obtain ⟨c, hce⟩ : ∃ c, c = (turned t a P.data.toList j).getD ((a + j) / 8) 0 := ⟨_, rfl⟩
          rw [← hce] at hck
          have HO := hid hown
          have HC := hid hce
          clear hown hcd hlt8 hce
          go_wp2
          go_roundw
          case rel =>
            refine ⟨j + 1, by omega, by go_num, by rw [anyTurned, if_pos ⟨hc, by rw [hlen]; exact hb⟩], ?_, hbel.setCell (by have := HO.out.block_ge (k := g) rfl; exact this) _⟩
            have hst := HO.out.stored ((a + j) / 8) (c ^^^ UInt8.ofNat (2 ^ ((a + j) % 8)))
            rw [← xor_pow c _ (by omega)] at hst
            rw [turned, if_pos ⟨hc, by rw [hlen]; exact hb⟩, flip, ← HC.out]
            exact hst
          case measure => simp [intOf]; omega
        · have htst : (bits .and .u32 (Crc.u t / 2 ^ j) 1 == 1) = false := by rw [shift_bit t j, if_neg hc]; rfl
          have HO := hid hown
          have HT : Hid (¬ (t.getLsbD j = true ∧ a + j < 8 * P.data.toList.length)) := fun h => hc h.1
          clear hown hc
          go_wp2
          go_roundw
          case rel => exact ⟨j + 1, by omega, by go_num, by rw [anyTurned, if_neg HT.out], by rw [turned, if_neg HT.out]; exact HO.out, hbel⟩
          case measure => simp [intOf]; omega
      · have HO := hid hown
        have HT : Hid (¬ (t.getLsbD j = true ∧ a + j < 8 * P.data.toList.length)) := fun h => hb (by rw [← hlen]; exact h.2)
        clear hown
        by_cases hc : t.getLsbD j = true
        · have htst : (bits .and .u32 (Crc.u t / 2 ^ j) 1 == 1) = true := by rw [shift_bit t j, hc]; rfl
          clear hc
          go_wp2
          go_roundw
          case rel => exact ⟨j + 1, by omega, by go_num, by rw [anyTurned, if_neg HT.out], by rw [turned, if_neg HT.out]; exact HO.out, hbel⟩
          case measure => simp [intOf]; omega
        · have htst : (bits .and .u32 (Crc.u t / 2 ^ j) 1 == 1) = false := by rw [shift_bit t j, if_neg hc]; rfl
          clear hc
          go_wp2
          go_roundw
          case rel => exact ⟨j + 1, by omega, by go_num, by rw [anyTurned, if_neg HT.out], by rw [turned, if_neg HT.out]; exact HO.out, hbel⟩
          case measure => simp [intOf]; omega
    · have hj32 : j = 32 := by omega
      subst hj32
      have HO := hid hown
      have HT := hid ((HL4.out.tab).below hbel (Nat.lt_of_le_of_lt (Nat.zero_le _) hbase))
      have HP := hid (HP4.out.below_own hbel HQ4.out)
      have HB := hid (HL4.out.bel.trans (hbel.mono (Nat.le_of_lt hbase)))
      clear hown hbel
      cases hany : anyTurned t a P.data.toList 32 with
      | false =>
        go_wp2
        go_ret
        exact ⟨rfl, HB.out⟩
      | true =>
        have hne := turned_sum t a P.data.toList hany
        have hne' : (Crc.u (Crc.more 0#32 P.data.toList) != Crc.u (Crc.more 0#32 (turned t a P.data.toList 32))) = true := by
          simp only [bne_iff_ne, ne_eq]; exact fun e => hne (Crc.u_inj e)
        clear hne
        go_wp2_with (first
          | (go_at_call 10; have hq := HP.out; clear HP; refine (crc_any P.data.toList _ _ (by simp; omega) HT.out hq.bytesAt).mono ?_; rintro e w8 ⟨rfl, rfl⟩)
          | (go_at_call 10; have hq := HO.out; clear HO; refine (crc_any (turned t a P.data.toList 32) _ _ (by rw [turned_length]; simp; omega) HT.out hq.bytesAt).mono ?_; rintro e w9 ⟨rfl, rfl⟩)
          | fail)
        go_ret
        exact ⟨rfl, HB.out⟩
end Go.Proofs.YtageiccempcbaaaDoor
