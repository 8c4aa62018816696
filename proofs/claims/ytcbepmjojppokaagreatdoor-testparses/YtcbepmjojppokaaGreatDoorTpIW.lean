/-
  strconv.FormatInt at 16 (stage 23).
-/
import Derived.Test.YtcbepmjojppokaaGreatDoorTpHW
namespace Go.Proofs.YtcbepmjojppokaaGreatDoor.Tp
open Go.RowKit Go.Shelf
set_option maxRecDepth 10000 in
theorem tz16 (w : World) (hT : TabAt 20 Lib.deBruijn64tab w) : Calls Tryz.prog 135 #[.int .u64 16] w fun e w' => e = .returned (.int .i64 4) ∧ w' = w := by
  have h := Any7.bits_TrailingZeros Tryz.lays727 16 (by omega) w (fun _ => hT)
  exact h
set_option maxRecDepth 10000 in
set_option maxHeartbeats 400000 in
theorem pow16 (w : World) : Calls Tryz.prog 134 #[.int .i64 16] w fun e w' => e = .returned (.bool true) ∧ w' = w := by
  go_enter Tryz.func134, Tryz.ntmps134
  go_wp2
  go_ret
  exact ⟨rfl, rfl⟩
/-- A digit's byte. -/
def lxd (d : Nat) : UInt8 := ([48, 49, 50, 51, 52, 53, 54, 55, 56, 57, 97, 98, 99, 100, 101, 102] : List UInt8).getD d 0
/-- How many digits are wanted. -/
def lxk (n : Nat) : Nat := if n < 16 then 1 else if n < 256 then 2 else if n < 4096 then 3 else if n < 65536 then 4 else if n < 1048576 then 5 else 6
/-- The last k digits. -/
def lxs (n : Nat) : Nat → List UInt8
  | 0 => []
  | k + 1 => lxd (n / 16 ^ k % 16) :: lxs n k
theorem lxs_len (n : Nat) : ∀ k, (lxs n k).length = k
  | 0 => rfl
  | k + 1 => by rw [lxs, List.length_cons, lxs_len n k]
theorem lx_more {n k : Nat} (hn : n ≤ 1114111) (hk : k ≤ 5) (h : 16 ≤ n / 16 ^ k) : k + 1 ≤ 5 ∧ k + 2 ≤ lxk n := by
  have hc : k = 0 ∨ k = 1 ∨ k = 2 ∨ k = 3 ∨ k = 4 ∨ k = 5 := by omega
  unfold lxk
  rcases hc with rfl | rfl | rfl | rfl | rfl | rfl <;> simp at h <;> (repeat' split) <;> omega
theorem lx_last {n k : Nat} (hn : n ≤ 1114111) (hk : k ≤ 5) (h : ¬ 16 ≤ n / 16 ^ k) (hm : k + 1 ≤ lxk n) : k + 1 = lxk n := by
  have hc : k = 0 ∨ k = 1 ∨ k = 2 ∨ k = 3 ∨ k = 4 ∨ k = 5 := by omega
  unfold lxk at *
  rcases hc with rfl | rfl | rfl | rfl | rfl | rfl <;> simp at h <;> (repeat' split at hm) <;> (repeat' split) <;> omega
theorem lx_up : ∀ d : Fin 16, Lib.upperB (lxd d.val) = hxd d.val := by decide +kernel
theorem lx_upper (n : Nat) : ∀ k, Lib.toUpperA (lxs n k) = hxs n k
  | 0 => rfl
  | k + 1 => by
    have h := lx_up ⟨n / 16 ^ k % 16, Nat.mod_lt _ (by decide)⟩
    have ih := lx_upper n k
    unfold Lib.toUpperA at ih ⊢
    rw [lxs, List.map_cons, ih, h, hxs]
theorem lx_pad (n : Nat) : List.replicate (4 - lxk n) 48 ++ hxs n (lxk n) = hx n := by
  have z : ∀ k, n < 16 ^ k → hxs n (k + 1) = 48 :: hxs n k := fun k h => by
    rw [hxs, Nat.div_eq_of_lt h]; rfl
  unfold hx hxk lxk
  by_cases h1 : n < 16
  · rw [if_pos h1, if_pos (by omega), z 3 (by omega), z 2 (by omega), z 1 (by omega)]; rfl
  · by_cases h2 : n < 256
    · rw [if_neg h1, if_pos h2, if_pos (by omega), z 3 (by omega), z 2 (by omega)]; rfl
    · by_cases h3 : n < 4096
      · rw [if_neg h1, if_neg h2, if_pos h3, if_pos (by omega), z 3 (by omega)]; rfl
      · by_cases h4 : n < 65536
        · rw [if_neg h1, if_neg h2, if_neg h3, if_pos h4]; rfl
        · by_cases h5 : n < 1048576
          · rw [if_neg h1, if_neg h2, if_neg h3, if_neg h4, if_pos h5]; rfl
          · rw [if_neg h1, if_neg h2, if_neg h3, if_neg h4, if_neg h5]; rfl
theorem lxs_ascii (n : Nat) : ∀ k, ∀ b ∈ lxs n k, b.toNat < 128
  | 0, b, h => by cases h
  | k + 1, b, h => by
    have hd : ∀ d : Fin 16, (lxd d.val).toNat < 128 := by decide +kernel
    rw [lxs] at h
    rcases List.mem_cons.1 h with rfl | h
    · exact hd ⟨n / 16 ^ k % 16, Nat.mod_lt _ (by decide)⟩
    · exact lxs_ascii n k b h
/-- The array while the digits are put: k of them at its end. -/
def fbA (n k : Nat) : List Value := List.replicate (65 - k) (.int .u8 0) ++ (lxs n k).map (fun b => Value.int .u8 (b.toNat : Int))
theorem fbA_len (n k : Nat) (hk : k ≤ 65) : (fbA n k).length = 65 := by unfold fbA; rw [List.length_append, List.length_replicate, List.length_map, lxs_len]; omega
theorem fbA_set (n k d : Nat) (hk : k < 65) (hd : d = n / 16 ^ k % 16) : (fbA n k).set (64 - k) (.int .u8 ((lxd d).toNat : Int)) = fbA n (k + 1) := by
  unfold fbA
  have h1 : 65 - k = (64 - k) + 1 := by omega
  have h2 : 65 - (k + 1) = 64 - k := by omega
  rw [h1, h2, List.replicate_succ', List.append_assoc, List.set_append_right _ _ (by simp)]
  rw [List.length_replicate, Nat.sub_self, lxs, hd]
  rfl
theorem u64_and15 (a : Nat) (ha : a ≤ 1114111) : bits .and .u64 (a : Int) 15 = ((a % 16 : Nat) : Int) := by
  have e2 : a &&& 15 = a % 16 := Nat.and_two_pow_sub_one_eq_mod a 4
  have e1 : (BitVec.ofInt 64 (a : Int)).toNat = a := by simp; omega
  show IntKind.u64.wrap ((BitVec.ofInt 64 (a : Int) &&& BitVec.ofInt 64 15).toNat : Int) = _
  rw [BitVec.toNat_and, e1, show (BitVec.ofInt 64 15).toNat = 15 from rfl, e2, IntKind.wrap_u64]
  omega
theorem lx_dig : ∀ d : Fin 16, ((⟨#[48, 49, 50, 51, 52, 53, 54, 55, 56, 57, 97, 98, 99, 100, 101, 102, 103, 104, 105, 106, 107, 108, 109, 110, 111, 112, 113, 114, 115, 116, 117, 118, 119, 120, 121, 122]⟩ : ByteArray)[d.val]'(Nat.lt_of_lt_of_le d.isLt (by decide))) = lxd d.val := by decide +kernel
theorem fbA_cell {n k B j : Nat} {W : World} (h : W.heap[B]? = some (.cells (fbA n k).toArray 180 (0, 0))) (hj : j < 65 - k) : W.cell? ⟨B, j, none⟩ = some (.int .u8 0) := by
  rw [cell_of_row _ _ _ _ _ _ h]
  unfold fbA
  simp [List.getElem?_append_left, hj]
set_option maxRecDepth 10000 in
theorem sl65 (B k : Nat) (hk : k ≤ 5) (W : World) : (Instr.sliceAt 180 (.pointer (some ⟨B, 0, none⟩)) (some (.int .i64 ((65 : Int) - (k : Int) - 1))) none none).run Tryz.prog W = .ok (.slice (some ⟨B, 64 - k, none⟩) (k + 1) (k + 1)) W := by
  have e1 : (65 : Int) - (k : Int) - 1 = ((64 - k : Nat) : Int) := by omega
  have hl : Tryz.prog.arrayLen 180 = 65 := by kernel_rfl
  have he : Tryz.prog.elem 180 = 5 := by kernel_rfl
  rw [e1, run_sliceAt_array_l W _ _ (by kernel_rfl) .i64 _ (by omega) (by rw [hl]; omega), hl, he]
  have hs : (sizeOf 5).run Tryz.prog W = .ok 1 W := Tryz.sizeOf5 W
  rw [hs]
  have h1 : ¬ (65 = 64 - k) := by omega
  have h2 : 65 - (64 - k) = k + 1 := by omega
  simp [slicedAt, h1, h2, Addr.add]
  omega
theorem conv65 (B n k : Nat) (W : World) (hk : k ≤ 5) (h : W.heap[B]? = some (.cells (fbA n (k + 1)).toArray 180 (0, 0))) :
    (convert 83 9 (.slice (some ⟨B, 64 - k, none⟩) (k + 1) (k + 1))).run Tryz.prog W = .ok (.string ⟨(lxs n (k + 1)).toArray⟩) W := by
  have hc := run_convert_bytes_back (P := Tryz.prog) W 83 9 5 ⟨B, 64 - k, none⟩ (k + 1) (lxs n (k + 1)) Tryz.underlying83 Tryz.underlying5 Tryz.underlying9 (fun j hj => by
    rw [lxs_len] at hj
    rw [Addr.add_mid, cell_of_row _ _ _ _ _ _ h]
    unfold fbA
    rw [show 65 - (k + 1) = 64 - k from by omega]
    rw [List.getElem?_toArray, List.getElem?_append_right (by simp), List.length_replicate, Nat.add_sub_cancel_left]
    simp [lxs_len, hj])
  rw [lxs_len] at hc
  exact hc
set_option maxRecDepth 10000 in
set_option maxHeartbeats 800000 in
theorem fmtBits_any (n : Nat) (hn : n ≤ 1114111) (w : World) (hT : TabAt 20 Lib.deBruijn64tab w) :
    Calls Tryz.prog 118 #[.slice none 0 0, .int .u64 (n : Int), .int .i64 16, .bool false, .bool false] w fun e w' => e = .returned (.tuple #[.slice none 0 0, .string ⟨(lxs n (lxk n)).toArray⟩]) ∧ Below w.heap.size w w' := by
  have HT := hid0 (fun W (hb : Below w.heap.size w W) => tz16 W (fun j hj => (hb.cell (p := ⟨20, j, none⟩) (World.block_lt_of_cell? w _ (hT j hj))).trans (hT j hj)))
  have HB := hid0 (fun o : Obj => (Below.refl w.heap.size w).alloc (Nat.le_refl _) o)
  clear hT
  go_enter Tryz.func118, Tryz.ntmps118
  go_wp2_with (first
    | (go_at_call 134; refine (pow16 _).mono ?_; rintro e w1 ⟨rfl, rfl⟩)
    | (go_at_call 135; refine (HT.out _ (HB.out _)).mono ?_; rintro e w1 ⟨rfl, rfl⟩)
    | fail)
  go_loopw [1, 13] (fun u i wr => ∃ k m : Nat, k ≤ 5 ∧ m = n / 16 ^ k ∧ i = .int .i64 ((65 : Int) - (k : Int)) ∧ u = .int .u64 (m : Int) ∧ k + 1 ≤ lxk n ∧ Hid (wr.heap[w.heap.size]? = some (.cells (fbA n k).toArray 180 (0, 0))) ∧ Hid (Below w.heap.size w wr)) (fun u _ _ => (intOf u).toNat)
  case atStart => exact ⟨0, n, by omega, by simp, rfl, rfl, by unfold lxk; (repeat' split) <;> omega, hid0 (heap_alloc_new w _), HB.out _⟩
  case round =>
    clear HT HB
    obtain ⟨k, m, hk, hm, rfl, rfl, hlk, HA, HB2⟩ := hrel
    have hmb : m ≤ 1114111 := by rw [hm]; exact Nat.le_trans (Nat.div_le_self _ _) hn
    have hf1 : wr.frozen? ⟨w.heap.size, 65 - k - 1, none⟩ = false := frozen_of_row _ _ _ _ _ HA.out
    have hc1 : wr.cell? ⟨w.heap.size, 65 - k - 1, none⟩ = some (.int .u8 0) := fbA_cell HA.out (by omega)
    have h64 : (0 : Int) ≤ 65 - (k : Int) - 1 := by omega
    have h65 : (65 : Int) - (k : Int) - 1 < 65 := by omega
    have h66 : (65 : Int) - (k : Int) - 1 ≤ 65 := by omega
    by_cases hc : 16 ≤ m
    · have hcI : (m : Int) ≥ 16 := by omega
      have hk5 := lx_more hn hk (by rw [← hm]; exact hc)
      obtain ⟨d, hd⟩ : ∃ d, d = m % 16 := ⟨_, rfl⟩
      have hd16 : d < 16 := by omega
      have hbit : bits .and .u64 (m : Int) 15 = (d : Int) := by rw [u64_and15 m hmb, hd]
      have HDg := hid0 (lx_dig ⟨d, hd16⟩)
      have HSt := hid0 (fbA_set n k d (by omega) (by rw [hd, hm]))
      have HM2 : Hid (m / 16 = n / 16 ^ (k + 1)) := hid0 (by rw [hm, Nat.div_div_eq_div_mul, Nat.pow_succ])
      clear hm hd
      go_wp2
      go_roundw
      case rel =>
        refine ⟨k + 1, m / 16, by omega, HM2.out, by (congr 1; omega), by first | rfl | (congr 1), by omega, hid0 ?_, hid0 (HB2.out.setCell (p := ⟨w.heap.size, 65 - k - 1, none⟩) (by simp) _)⟩
        have hr := heap_setCell_same wr w.heap.size (65 - k - 1) _ _ (.int .u8 ((lxd d).toNat : Int)) HA.out
        have hdg := HDg.out
        rw [← HSt.out, show ((⟨#[48, 49, 50, 51, 52, 53, 54, 55, 56, 57, 97, 98, 99, 100, 101, 102, 103, 104, 105, 106, 107, 108, 109, 110, 111, 112, 113, 114, 115, 116, 117, 118, 119, 120, 121, 122]⟩ : ByteArray)[d]'(Nat.lt_of_lt_of_le hd16 (by decide))) = lxd d from hdg]
        rw [List.setIfInBounds_toArray] at hr
        rw [show 65 - k - 1 = 64 - k from by omega] at hr ⊢
        exact hr
      case measure => simp [intOf]; omega
    · have hcI : ¬ (m : Int) ≥ 16 := by omega
      have hk5 := lx_last hn hk (by rw [← hm]; exact hc) hlk
      have hm16 : m < 16 := by omega
      have hmI0 : (0 : Int) ≤ (m : Int) := by omega
      have hmI : (m : Int) < 36 := by omega
      have HDg := hid0 (lx_dig ⟨m, hm16⟩)
      have HSt := hid0 (fbA_set n k m (by omega) (by rw [← hm]; omega))
      have HK := hid0 hk5
      clear hm hk5
      have HC65 := hid0 (fun W => conv65 w.heap.size n k W hk)
      have HRow : Hid ((wr.setCell ⟨w.heap.size, 65 - k - 1, none⟩ (.int .u8 ((lxd m).toNat : Int))).heap[w.heap.size]? = some (.cells (fbA n (k + 1)).toArray 180 (0, 0))) := hid0 (by
        have hr := heap_setCell_same wr w.heap.size (65 - k - 1) _ _ (.int .u8 ((lxd m).toNat : Int)) HA.out
        rw [List.setIfInBounds_toArray] at hr
        rw [← HSt.out]
        rw [show 65 - k - 1 = 64 - k from by omega] at hr ⊢
        exact hr)
      go_wp2
      rw [sl65 w.heap.size k hk]
      simp only [Result.andThen]
      rw [Oper.upon_value]
      rw [show ((⟨#[48, 49, 50, 51, 52, 53, 54, 55, 56, 57, 97, 98, 99, 100, 101, 102, 103, 104, 105, 106, 107, 108, 109, 110, 111, 112, 113, 114, 115, 116, 117, 118, 119, 120, 121, 122]⟩ : ByteArray)[m]'(Nat.lt_of_lt_of_le hm16 (by decide))) = lxd m from HDg.out]
      have hcv := HC65.out _ HRow.out
      go_wp2
      go_ret2
      exact ⟨by rw [← HK.out]; rfl, HB2.out.setCell (p := ⟨w.heap.size, 65 - k - 1, none⟩) (by simp) _⟩
theorem ext105 : Builder.Extra Tryz.prog Tryz.lays105_ren where
  sizeBuilder := by kernel_rfl
  liesBuilder := by kernel_rfl
  t5 := Tryz.underlying5
  a5 := Tryz.isAgg5
  z5 := Tryz.sizeOf5
  v5 := Tryz.zeroValue5
  infoByte := by kernel_rfl
  cellsByte := by kernel_rfl
  sizeByte := by kernel_rfl
  neB5 := by decide
theorem ext158 : Builder.Extra Tryz.prog Tryz.lays158_ren where
  sizeBuilder := by kernel_rfl
  liesBuilder := by kernel_rfl
  t5 := Tryz.underlying5
  a5 := Tryz.isAgg5
  z5 := Tryz.sizeOf5
  v5 := Tryz.zeroValue5
  infoByte := by kernel_rfl
  cellsByte := by kernel_rfl
  sizeByte := by kernel_rfl
  neB5 := by decide
theorem rep48 : ∀ k, Lib.repeatL [48] k = List.replicate k 48
  | 0 => rfl
  | k + 1 => by rw [Lib.repeatL, rep48 k]; rfl
set_option maxRecDepth 10000 in
set_option maxHeartbeats 800000 in
theorem digits_any (n : Nat) (hn : n ≤ 1114111) (w : World) (hT : TabAt 20 Lib.deBruijn64tab w) :
    Calls Tryz.prog 57 #[.int .i64 (n : Int)] w fun e w' => e = .returned (.string ⟨(hx n).toArray⟩) ∧ Below w.heap.size w w' := by
  have hlen := lxs_len n (lxk n)
  have hpad := lx_pad n
  have hk1 : 1 ≤ lxk n ∧ lxk n ≤ 6 := by unfold lxk; (repeat' split) <;> omega
  have hF := fmtBits_any n hn w hT
  have hup := lx_upper n (lxk n)
  have hasc := lxs_ascii n (lxk n)
  generalize lxs n (lxk n) = L at *
  generalize lxk n = K at *
  have hI : Calls Tryz.prog 97 #[.int .i64 (n : Int), .int .i64 16] w fun e w' => e = .returned (.string ⟨L.toArray⟩) ∧ Below w.heap.size w w' := by
    have hnI : ¬ (n : Int) < 0 := by omega
    have hnu : IntKind.u64.wrap (n : Int) = (n : Int) := by rw [IntKind.wrap_u64]; omega
    have HF := hid0 hF
    clear hF hT hpad hup hasc hlen hk1
    go_enter Tryz.func97, Tryz.ntmps97
    go_wp2_with (go_at_call 118; refine HF.out.mono ?_; rintro e w1 ⟨rfl, hb⟩; have HB := hid0 hb; clear hb)
    go_ret
    exact ⟨rfl, HB.out⟩
  have hS : Calls Tryz.prog 76 #[.int .i64 (n : Int), .int .i64 16] w fun e w' => e = .returned (.string ⟨L.toArray⟩) ∧ Below w.heap.size w w' := by
    have HI := hid0 hI
    clear hI hT hF hpad hup hasc hlen hk1
    go_enter Tryz.func76, Tryz.ntmps76
    go_wp2_with (go_at_call 97; refine HI.out.mono ?_; rintro e w1 ⟨rfl, hb⟩; have HB := hid0 hb; clear hb)
    go_ret
    exact ⟨rfl, HB.out⟩
  have hU : ∀ W, Calls Tryz.prog 75 #[.string ⟨L.toArray⟩] W fun e w' => e = .returned (.string ⟨(hxs n K).toArray⟩) ∧ Below W.heap.size W w' := fun W => by
    have h := Any.strings_ToUpper_ascii Tryz.lays158 ext158 ⟨L.toArray⟩ W (by rw [strT]; omega) (fun j b hb => hasc b (List.mem_of_getElem? hb))
    rw [show (Lib.toUpperA (⟨L.toArray⟩ : ByteArray).data.toList) = hxs n K from hup] at h
    exact h
  have hR : ∀ W, Calls Tryz.prog 77 #[.string ⟨#[48]⟩, .int .i64 ((4 - K : Nat) : Int)] W fun e w' => e = .returned (.string ⟨(List.replicate (4 - K) 48).toArray⟩) ∧ Below W.heap.size W w' := fun W => by
    have h := Any.strings_Repeat Tryz.lays105 ext105 ⟨#[48]⟩ (4 - K) W (by omega) (by show (1 : Nat) * _ ≤ _; omega)
    have e : Lib.repeatL (⟨#[48]⟩ : ByteArray).data.toList (4 - K) = List.replicate (4 - K) 48 := rep48 _
    rw [e] at h
    exact h
  have HS := hid0 hS
  have HU := hid0 hU
  have HR := hid0 hR
  have hzz : (⟨(hxs n K).toArray⟩ : ByteArray).size = K := by rw [strT, hxs_len]
  have hrz : (⟨(List.replicate (4 - K) (48 : UInt8)).toArray⟩ : ByteArray).size = 4 - K := by rw [strT, List.length_replicate]
  have HP : Hid ((⟨(List.replicate (4 - K) (48 : UInt8)).toArray⟩ : ByteArray) ++ ⟨(hxs n K).toArray⟩ = ⟨(hx n).toArray⟩) := hid0 (by rw [app_arrT, hpad])
  have HMx : Hid (∀ (ts : Array TypeId) (t : TypeId) (W : World), (Builtin.max_ ts t #[.int .i64 0, .int .i64 ((4 : Int) - (K : Int))]).run Tryz.prog W = .ok (.int .i64 ((4 - K : Nat) : Int)) W) := hid0 (fun ts t W => by
    have e : (if (4 : Int) - (K : Int) > 0 then (4 : Int) - (K : Int) else 0) = ((4 - K : Nat) : Int) := by split <;> omega
    rw [run_max_int2, e])
  have hmx := HMx.out
  clear hI hS hU hR hT hF hpad hup hasc hlen
  generalize (⟨(hxs n K).toArray⟩ : ByteArray) = S1 at *
  generalize (⟨(List.replicate (4 - K) (48 : UInt8)).toArray⟩ : ByteArray) = S2 at *
  go_enter Tryz.func57, Tryz.ntmps57
  go_wp2_with (first
    | (go_at_call 76; refine HS.out.mono ?_; rintro e w1 ⟨rfl, hb1⟩; have HB1 := hid0 hb1; clear hb1)
    | (go_at_call 75; refine (HU.out _).mono ?_; rintro e w2 ⟨rfl, hb2⟩; have HB2 := hid0 (HB1.out.trans (hb2.mono HB1.out.size)); clear hb2)
    | (go_at_call 77; refine (HR.out _).mono ?_; rintro e w3 ⟨rfl, hb3⟩; have HB3 := hid0 (HB2.out.trans (hb3.mono HB2.out.size)); clear hb3)
    | fail)
  go_ret
  exact ⟨by rw [← HP.out]; rfl, HB3.out⟩
end Go.Proofs.YtcbepmjojppokaaGreatDoor.Tp
