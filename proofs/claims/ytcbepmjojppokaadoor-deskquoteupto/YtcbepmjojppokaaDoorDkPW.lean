/-
  The walks of desk.writeQuoted, desk.Quote (stage 25).
-/
import Derived.Test.YtcbepmjojppokaaDoorDkGW
namespace Go.Proofs.YtcbepmjojppokaaDoor
open Go.RowKit Go.Shelf
theorem cells_app (l m : Dy) : Lib.byteCells l ++ Lib.strCells (rd m) = Lib.byteCells (l ++ m) := by simp [Lib.byteCells, Lib.strCells]
/-- What a write leaves. -/
structure WqO (B b : Nat) (l : Dy) (w w' : World) : Prop where
  bl : Bl B b (Lib.byteCells l) w'
  bel : Below B w w'
theorem hx_dig : ∀ d : Fin 16, ((⟨#[48, 49, 50, 51, 52, 53, 54, 55, 56, 57, 97, 98, 99, 100, 101, 102]⟩ : ByteArray)[d.val]'(Nat.lt_of_lt_of_le d.isLt (by decide))) = hxC d.val := by decide +kernel
theorem u8_and15 : ∀ c : Fin 256, bits .and .u8 (c.val : Int) 15 = ((c.val % 16 : Nat) : Int) := by decide +kernel
set_option maxRecDepth 10000 in
set_option maxHeartbeats 1600000 in
theorem writeQuoted_any (B b : Nat) (l : Dy) (c : UInt8) (w : World) (h : Bl B b (Lib.byteCells l) w) (hlen : l.length ≤ 70368744177664) (hBw : B ≤ w.heap.size) :
    Calls Tryd.prog 15 #[.pointer (some ⟨b, 0, none⟩), .int .u8 (c.toNat : Int)] w fun e w' => e = .returned (.tuple #[]) ∧ Hid (WqO B b (l ++ escQ c) w w') := by
  have HWb : Hid (∀ (m : Dy) (d : UInt8) (x : Int) W, x = (d.toNat : Int) → m.length ≤ 70368744177670 → WqO B b m w W → Calls Tryd.prog 14 #[.pointer (some ⟨b, 0, none⟩), .int .u8 x] W fun e w' => e = .returned .nilIface ∧ Hid (WqO B b (m ++ [d]) w w')) := hid0 (fun m d x W hx hm hW => by
    rw [hx]
    refine (writeByte_any B b (Lib.byteCells m) (d.toNat : Int) W hW.bl (by rw [Lib.byteCells_length]; omega) (Nat.le_trans hBw hW.bel.size)).mono ?_
    rintro e w' ⟨rfl, h1, h2, h3⟩
    exact ⟨rfl, hid0 ⟨.inr (by rw [← cells_snoc]; exact h1), hW.bel.trans h2⟩⟩)
  have HWs : Hid (∀ (m d : Dy) W, d.length ≤ 2 → m.length ≤ 70368744177670 → WqO B b m w W → Calls Tryd.prog 26 #[.pointer (some ⟨b, 0, none⟩), .string (rd d)] W fun e w' => (∃ v, e = .returned v) ∧ Hid (WqO B b (m ++ d) w w')) := hid0 (fun m d W hd hm hW => by
    refine (writeString_any B b (Lib.byteCells m) (rd d) W hW.bl (by rw [Lib.byteCells_length, rd_size]; omega) (Nat.le_trans hBw hW.bel.size)).mono ?_
    rintro e w' ⟨rfl, h1, h2, h3⟩
    exact ⟨⟨_, rfl⟩, hid0 ⟨.inr (by rw [← cells_app]; exact h1), hW.bel.trans h2⟩⟩)
  have HI := hid0 (show WqO B b l w w from ⟨h, Below.refl _ _⟩)
  obtain ⟨E, hE⟩ : ∃ E, E = escQ c := ⟨_, rfl⟩
  rw [← hE]
  unfold escQ at hE
  obtain ⟨x, hx⟩ : ∃ x, x = (c.toNat : Int) := ⟨_, rfl⟩
  have HX := hid0 hx
  have HPl : Hid (∀ W, Calls Tryd.prog 27 #[.int .u8 x] W fun e w' => e = .returned (.bool (selfB c)) ∧ w' = W) := hid0 (fun W => by rw [hx]; exact isPlain_any c W)
  obtain ⟨hx0, hx1⟩ := byteI c
  have x34 := u8_is c 34 (by omega)
  have x92 := u8_is c 92 (by omega)
  have x10 := u8_is c 10 (by omega)
  rw [← hx] at x34 x92 x10 hx0 hx1 ⊢
  clear h hx hBw
  by_cases c34 : c = 34 ∨ c = 92
  · have HE : Hid (E = [92, c]) := hid0 (by
      rw [hE]
      rcases c34 with rfl | rfl <;> rfl)
    have hxx : x = 34 ∨ x = 92 := c34.imp x34.1 x92.1
    have H1 := hid0 (HWb.out l 92 92 w rfl (by omega) HI.out)
    have H2 : Hid (∀ W, WqO B b (l ++ [92]) w W → Calls Tryd.prog 14 #[.pointer (some ⟨b, 0, none⟩), .int .u8 x] W fun e w' => e = .returned .nilIface ∧ Hid (WqO B b (l ++ [92] ++ [c]) w w')) := hid0 (fun W hW => HWb.out (l ++ [92]) c x W HX.out (by simp; omega) hW)
    have M1 : Hid True := hid0 trivial
    clear HWb HWs HI HPl hE c34 x34 x92 x10 HX
    rcases hxx with rfl | rfl <;>
      (go_enter Tryd.func15, Tryd.ntmps15
       go_wp2_with (first
         | (go_at_call 14; clear M1; refine H1.out.mono ?_; rintro e w1 ⟨rfl, h1⟩)
         | (go_at_call 14; refine (H2.out w1 h1.out).mono ?_; rintro e w2 ⟨rfl, h2⟩)
         | fail)
       go_end0
       exact ⟨rfl, by rw [HE.out]; have h3 := h2.out; rw [List.append_assoc] at h3; exact hid0 h3⟩)
  · rw [if_neg (fun e => c34 (.inl e)), if_neg (fun e => c34 (.inr e))] at hE
    have n34 : ¬ x = 34 := fun e => c34 (.inl (x34.2 e))
    have n92 : ¬ x = 92 := fun e => c34 (.inr (x92.2 e))
    have n34b : (x == 34) = false := by simpa using n34
    have n92b : (x == 92) = false := by simpa using n92
    by_cases c10 : c = 10
    · rw [if_pos c10] at hE
      have hx10 : x = 10 := x10.1 c10
      have H1 := hid0 (HWs.out l [92, 110] w (by simp) (by omega) HI.out)
      have HE := hid0 hE
      clear HWb HWs HI HPl hE c34 x34 x92 x10 HX c10
      subst hx10
      go_enter Tryd.func15, Tryd.ntmps15
      go_wp2_with (go_at_call 26; refine H1.out.mono ?_; rintro e w1 ⟨⟨v1, rfl⟩, h1⟩)
      go_end0
      exact ⟨rfl, by rw [HE.out]; exact h1⟩
    · rw [if_neg c10] at hE
      have n10 : ¬ x = 10 := fun e => c10 (x10.2 e)
      have n10b : (x == 10) = false := by simpa using n10
      have hself : selfB c = plB c := by
        unfold selfB
        rw [show (c == 34) = false by simpa using fun e => c34 (.inl e), show (c == 92) = false by simpa using fun e => c34 (.inr e)]
        simp
      rw [hself] at HPl
      cases hp : plB c with
      | true =>
        rw [if_pos hp] at hE
        rw [hp] at HPl
        have H1 := hid0 (HWb.out l c x w HX.out (by omega) HI.out)
        have HE := hid0 hE
        clear HWb HWs HI hE c34 x34 x92 x10 HX c10 hself hp
        go_enter Tryd.func15, Tryd.ntmps15
        go_wp2_with (first
          | (go_at_call 27; refine (HPl.out _).mono ?_; rintro e w0 ⟨rfl, hw0⟩; subst hw0)
          | (go_at_call 14; refine H1.out.mono ?_; rintro e w1 ⟨rfl, h1⟩)
          | fail)
        go_end0
        exact ⟨rfl, by rw [HE.out]; exact h1⟩
      | false =>
        rw [if_neg (by rw [hp]; simp)] at hE
        rw [hp] at HPl
        obtain ⟨n, hn⟩ : ∃ n, n = c.toNat := ⟨_, rfl⟩
        have hn256 : n < 256 := by rw [hn]; exact c.toNat_lt
        rw [← hn] at hE
        obtain rfl : x = (n : Int) := by rw [hn]; exact HX.out
        clear hn
        obtain ⟨hi, hhi⟩ : ∃ hi, hi = n / 16 := ⟨_, rfl⟩
        obtain ⟨lo, hlo⟩ : ∃ lo, lo = n % 16 := ⟨_, rfl⟩
        rw [← hhi, ← hlo] at hE
        have hi16 : hi < 16 := by omega
        have lo16 : lo < 16 := by omega
        have HDh := hid0 (hx_dig ⟨hi, hi16⟩)
        have HDl := hid0 (hx_dig ⟨lo, lo16⟩)
        have hsh : (n : Int) / 16 = (hi : Int) := by omega
        have hand : bits .and .u8 (n : Int) 15 = (lo : Int) := by rw [hlo]; exact u8_and15 ⟨n, hn256⟩
        have hgh : ((((⟨#[48, 49, 50, 51, 52, 53, 54, 55, 56, 57, 97, 98, 99, 100, 101, 102]⟩ : ByteArray)[hi]'(Nat.lt_of_lt_of_le hi16 (by decide))).toNat : Nat) : Int) = ((hxC hi).toNat : Int) := by rw [show _ = hxC hi from HDh.out]
        have hgl : ((((⟨#[48, 49, 50, 51, 52, 53, 54, 55, 56, 57, 97, 98, 99, 100, 101, 102]⟩ : ByteArray)[lo]'(Nat.lt_of_lt_of_le lo16 (by decide))).toNat : Nat) : Int) = ((hxC lo).toNat : Int) := by rw [show _ = hxC lo from HDl.out]
        clear hhi hlo HDh HDl
        have H0 := hid0 (HWs.out l [92, 120] w (by simp) (by omega) HI.out)
        have H1 : Hid (∀ W, WqO B b (l ++ [92, 120]) w W → Calls Tryd.prog 14 #[.pointer (some ⟨b, 0, none⟩), .int .u8 ((hxC hi).toNat : Int)] W fun e w' => e = .returned .nilIface ∧ Hid (WqO B b (l ++ [92, 120] ++ [hxC hi]) w w')) := hid0 (fun W hW => HWb.out (l ++ [92, 120]) (hxC hi) _ W rfl (by simp; omega) hW)
        have H2 : Hid (∀ W, WqO B b (l ++ [92, 120] ++ [hxC hi]) w W → Calls Tryd.prog 14 #[.pointer (some ⟨b, 0, none⟩), .int .u8 ((hxC lo).toNat : Int)] W fun e w' => e = .returned .nilIface ∧ Hid (WqO B b (l ++ [92, 120] ++ [hxC hi] ++ [hxC lo]) w w')) := hid0 (fun W hW => HWb.out (l ++ [92, 120] ++ [hxC hi]) (hxC lo) _ W rfl (by simp; omega) hW)
        have HE : Hid (∀ w', WqO B b (l ++ [92, 120] ++ [hxC hi] ++ [hxC lo]) w w' → WqO B b (l ++ E) w w') := hid0 (fun w' h => by
          have e : l ++ E = l ++ [92, 120] ++ [hxC hi] ++ [hxC lo] := by rw [hE]; simp
          rw [e]
          exact h)
        generalize ((hxC hi).toNat : Int) = zh at *
        generalize ((hxC lo).toNat : Int) = zl at *
        have M1 : Hid True := hid0 trivial
        clear HWb HWs HI hE c34 x34 x92 x10 HX c10 hself hp
        go_enter Tryd.func15, Tryd.ntmps15
        go_wp2_with (first
          | (go_at_call 27; refine (HPl.out _).mono ?_; rintro e w0 ⟨rfl, hw0⟩; subst hw0)
          | (go_at_call 26; refine H0.out.mono ?_; rintro e w1 ⟨⟨v1, rfl⟩, h1⟩)
          | (go_at_call 14; clear M1; refine (H1.out w1 h1.out).mono ?_; rintro e w2 ⟨rfl, h2⟩)
          | (go_at_call 14; refine (H2.out w2 h2.out).mono ?_; rintro e w3 ⟨rfl, h3⟩)
          | fail)
        go_end0
        exact ⟨rfl, hid0 (HE.out _ h3.out)⟩
theorem idx_ge (l : Dy) (c : UInt8) : -1 ≤ Lib.indexByte l c := by
  induction l with
  | nil => exact Int.le_refl _
  | cons b l ih =>
    rw [Lib.indexByte]
    split
    · decide
    · split <;> omega
theorem idx_neg (l : Dy) : decide (Lib.indexByte l 92 < 0) = l.all (fun b => !(b == 92)) := by
  induction l with
  | nil => rfl
  | cons b l ih =>
    rw [Lib.indexByte, List.all_cons, ← ih]
    have := idx_ge l 92
    by_cases hb : b = 92
    · subst hb; rfl
    · have h1 : (b == 92) = false := by simpa using hb
      rw [h1]
      by_cases h2 : Lib.indexByte l 92 = -1
      · rw [h2]; rfl
      · have h3 : (Lib.indexByte l 92 == -1) = false := by simpa using h2
        rw [h3]
        simp only [Bool.false_eq_true, if_false, Bool.not_false, Bool.true_and]
        rw [decide_eq_false (by omega), decide_eq_false (by omega)]
theorem all_two (l : Dy) : l.all (fun b => bareB b && !(b == 92)) = (l.all bareB && l.all (fun b => !(b == 92))) := by
  induction l with
  | nil => rfl
  | cons b l ih =>
    rw [List.all_cons, List.all_cons, List.all_cons, ih]
    cases bareB b <;> cases l.all bareB <;> simp
theorem bareQ_eq (l : Dy) : bareQ l = (((l.all bareB && !l.isEmpty) && decide (Lib.indexByte l 92 < 0)) && !Lib.hasPrefix l [35]) := by
  rw [idx_neg]
  cases l with
  | nil => rfl
  | cons c r =>
    have hp : Lib.hasPrefix (c :: r) [35] = (c == 35) := by
      unfold Lib.hasPrefix
      by_cases hc : c = 35
      · subst hc; rfl
      · rw [List.isPrefixOf, show ((35 : UInt8) == c) = false by simpa using (fun e => hc e.symm), show (c == 35) = false by simpa using hc]
        rfl
    rw [hp]
    show (!(c == 35) && (c :: r).all (fun b => bareB b && !(b == 92))) = _
    rw [all_two]
    cases (c == 35) <;> simp
set_option maxRecDepth 10000 in
set_option maxHeartbeats 1600000 in
theorem quote_any (l : Dy) (w : World) (hl : l.length ≤ 4000000000000) :
    Calls Tryd.prog 5 #[.string (rd l)] w fun e w' => e = .returned (.string (rd (quoQ l))) ∧ Hid (Below w.heap.size w w') := by
  obtain ⟨s, hs⟩ : ∃ s, s = rd l := ⟨_, rfl⟩
  have hS : s.size = l.length := by rw [hs, rd_size]
  have HG : Hid (∀ k (h : k < s.size), ∃ h2 : k < l.length, s[k] = l[k]) := hid0 (by subst hs; exact fun k h => ⟨by rw [← rd_size]; exact h, rfl⟩)
  have HB := hid0 (isBare_any l w (by omega))
  have HI : Hid (Calls Tryd.prog 12 #[.string (rd l), .int .u8 92] w fun e w' => e = .returned (.int .i64 (Lib.indexByte l 92)) ∧ w' = w) := hid0 (Any.strings_IndexByte Tryd.lays137 (rd l) 92 w)
  have HP : Hid (Calls Tryd.prog 13 #[.string (rd l), .string ⟨#[35]⟩] w fun e w' => e = .returned (.bool (Lib.hasPrefix l [35])) ∧ w' = w) := hid0 (Any.strings_HasPrefix Tryd.lays99 (rd l) ⟨#[35]⟩ w)
  have HQ := hid0 (bareQ_eq l)
  rw [← hs] at HB HI HP ⊢
  obtain ⟨V, hV⟩ : ∃ V, V = rd (quoQ l) := ⟨_, rfl⟩
  rw [← hV]
  unfold quoQ at hV
  generalize (l.all bareB && !l.isEmpty) = bb at *
  generalize Lib.indexByte l 92 = z at *
  generalize Lib.hasPrefix l [35] = hp at *
  by_cases hq : bareQ l = true
  · rw [if_pos hq] at hV
    have h := HQ.out
    rw [hq] at h
    have h2 := h.symm
    rw [Bool.and_eq_true, Bool.and_eq_true, decide_eq_true_eq] at h2
    obtain ⟨⟨rfl, hz⟩, h3⟩ := h2
    obtain rfl : hp = false := by
      cases hp with
      | false => rfl
      | true => cases h3
    have HV : Hid (V = s) := hid0 (by rw [hV, hs])
    clear hV hs h h3 HQ hq HG hS hl
    go_enter Tryd.func5, Tryd.ntmps5
    go_wp2_with (first
      | (go_at_call 11; refine HB.out.mono ?_; rintro e w1 ⟨rfl, hw⟩; subst hw)
      | (go_at_call 12; refine HI.out.mono ?_; rintro e w1 ⟨rfl, hw⟩; subst hw)
      | (go_at_call 13; refine HP.out.mono ?_; rintro e w1 ⟨rfl, hw⟩; subst hw)
      | fail)
    go_ret
    exact ⟨by rw [HV.out]; rfl, hid0 (Below.refl _ _)⟩
  · rw [if_neg hq] at hV
    have HV := hid0 hV
    have hthree : bb = false ∨ (bb = true ∧ ¬ z < 0) ∨ (bb = true ∧ z < 0 ∧ hp = true) := by
      have h := HQ.out
      have h2 : bareQ l = false := by simpa using hq
      rw [h2] at h
      cases bb with
      | false => exact .inl rfl
      | true =>
        by_cases hz : z < 0
        · cases hp with
          | false => rw [decide_eq_true hz] at h; cases h
          | true => exact .inr (.inr ⟨rfl, hz, rfl⟩)
        · exact .inr (.inl ⟨rfl, hz⟩)
    have HI0 : Hid (Calls Tryd.prog 14 #[.pointer (some ⟨w.heap.size, 0, none⟩), .int .u8 34] (w.alloc (.cells #[.pointer none, .slice none 0 0] 38)) fun e w' => e = .returned .nilIface ∧ Hid (WqO w.heap.size w.heap.size (34 :: (l.take 0).flatMap escQ) w w')) := hid0 (by
      refine (writeByte_any w.heap.size w.heap.size (Lib.byteCells []) 34 _ (bl_new w) (by simp [Lib.byteCells]) (by simp)).mono ?_
      rintro e w' ⟨rfl, h1, h2, h3⟩
      exact ⟨rfl, hid0 ⟨.inr h1, ((Below.refl _ _).alloc (Nat.le_refl _) _).trans h2⟩⟩)
    have HLen : Hid (∀ k, ((l.take k).flatMap escQ).length ≤ 4 * l.length) := hid0 (fun k => by
      have h1 : ∀ m : Dy, (m.flatMap escQ).length ≤ 4 * m.length := fun m => by
        induction m with
        | nil => simp
        | cons c m ih =>
          have := (esc_len c).2
          rw [List.flatMap_cons, List.length_append, List.length_cons]
          omega
      have h2 := h1 (l.take k)
      have h3 : (l.take k).length ≤ l.length := by rw [List.length_take]; omega
      omega)
    have HWq : Hid (∀ (k : Nat) (h : k < l.length) (x : Int) W, x = (l[k].toNat : Int) → WqO w.heap.size w.heap.size (34 :: (l.take k).flatMap escQ) w W → Calls Tryd.prog 15 #[.pointer (some ⟨w.heap.size, 0, none⟩), .int .u8 x] W fun e w' => e = .returned (.tuple #[]) ∧ Hid (WqO w.heap.size w.heap.size (34 :: (l.take (k + 1)).flatMap escQ) w w')) := hid0 (fun k h x W hx hW => by
      rw [hx]
      refine (writeQuoted_any w.heap.size w.heap.size (34 :: (l.take k).flatMap escQ) l[k] W hW.bl (by have := HLen.out k; rw [List.length_cons]; omega) hW.bel.size).mono ?_
      rintro e w' ⟨rfl, h1⟩
      have e : (34 :: (l.take k).flatMap escQ) ++ escQ l[k] = 34 :: (l.take (k + 1)).flatMap escQ := by
        rw [List.take_add_one, List.getElem?_eq_getElem h, Option.toList_some, List.flatMap_append, List.flatMap_singleton]
        rfl
      exact ⟨rfl, hid0 ⟨e ▸ h1.out.bl, hW.bel.trans h1.out.bel⟩⟩)
    have HEnd : Hid (∀ W, WqO w.heap.size w.heap.size (34 :: (l.take l.length).flatMap escQ) w W → Calls Tryd.prog 14 #[.pointer (some ⟨w.heap.size, 0, none⟩), .int .u8 34] W fun e w' => e = .returned .nilIface ∧ Hid (WqO w.heap.size w.heap.size (34 :: (l.flatMap escQ ++ [34])) w w')) := hid0 (fun W hW => by
      refine (writeByte_any w.heap.size w.heap.size (Lib.byteCells (34 :: (l.take l.length).flatMap escQ)) 34 W hW.bl (by rw [Lib.byteCells_length, List.length_cons]; have := HLen.out l.length; omega) hW.bel.size).mono ?_
      rintro e w' ⟨rfl, h1, h2, h3⟩
      refine ⟨rfl, hid0 ⟨.inr ?_, hW.bel.trans h2⟩⟩
      have e : Lib.byteCells (34 :: (l.take l.length).flatMap escQ) ++ [.int .u8 34] = Lib.byteCells (34 :: (l.flatMap escQ ++ [34])) := by
        rw [List.take_length]
        exact cells_snoc (34 :: l.flatMap escQ) 34
      exact e ▸ h1)
    have HStr : Hid (∀ W, WqO w.heap.size w.heap.size (34 :: (l.flatMap escQ ++ [34])) w W → Calls Tryd.prog 16 #[.pointer (some ⟨w.heap.size, 0, none⟩)] W fun e w' => e = .returned (.string V) ∧ Hid (Below w.heap.size w w')) := hid0 (fun W hW => by
      rw [HV.out]
      exact (Any.Builder_String_any_k Tryd.lays169 ext169 w.heap.size w.heap.size (34 :: (l.flatMap escQ ++ [34])) W (Lib.IsBuilderF.of hW.bl) hW.bel.size).mono (fun e w' h => ⟨h.1, hid0 (hW.bel.trans h.2.2.1)⟩))
    have HS := hid0 hS
    have hls : s.size ≤ 4000000000000 := by omega
    clear hV hs HQ hq hS hl HV HLen
    have M1 : Hid True := hid0 trivial
    rcases hthree with rfl | ⟨rfl, hz⟩ | ⟨rfl, hz, rfl⟩ <;>
      (go_enter Tryd.func5, Tryd.ntmps5
       go_wp2_with (first
         | (go_at_call 11; refine HB.out.mono ?_; rintro e w1 ⟨rfl, hw⟩; subst hw)
         | (go_at_call 12; refine HI.out.mono ?_; rintro e w1 ⟨rfl, hw⟩; subst hw)
         | (go_at_call 13; refine HP.out.mono ?_; rintro e w1 ⟨rfl, hw⟩; subst hw)
         | (go_at_call 14; clear M1; refine HI0.out.mono ?_; rintro e w2 ⟨rfl, h2⟩)
         | fail)
       go_loopw [4, 21] (fun _ i wr => ∃ k : Nat, k ≤ s.size ∧ i = .int .i64 (k : Int) ∧ Hid (WqO w1.heap.size w1.heap.size (34 :: (l.take k).flatMap escQ) w1 wr)) (fun _ i _ => s.size - (intOf i).toNat)
       case atStart => exact ⟨0, Nat.zero_le _, rfl, h2⟩
       case round =>
         obtain ⟨k, hk, rfl, HK⟩ := hrel
         have hkI0 : (0 : Int) ≤ (k : Int) := by omega
         by_cases hlt : k < s.size
         · have hkI : (k : Int) < (s.size : Int) := by omega
           obtain ⟨hk2, hg⟩ := HG.out k hlt
           obtain ⟨x, hx⟩ : ∃ x, x = (l[k].toNat : Int) := ⟨_, rfl⟩
           have hgx : (s[k].toNat : Int) = x := by rw [hg, hx]
           have HC := hid0 (HWq.out k hk2 x wr hx HK.out)
           clear HWq HEnd HStr HI0 HB HI HP hg hx h2
           go_wp2_with (go_at_call 15; refine HC.out.mono ?_; rintro e w3 ⟨rfl, h3⟩)
           go_roundw
           case rel => exact ⟨k + 1, hlt, by go_num, h3⟩
           case measure => simp [intOf]; omega
         · have hkI : ¬ (k : Int) < (s.size : Int) := by omega
           have hkl : k = l.length := by have := HS.out; omega
           have HC := hid0 (HEnd.out wr (by rw [hkl] at HK; exact HK.out))
           clear HWq HEnd HI0 HB HI HP h2 HK hkl
           go_wp2_with (first
             | (go_at_call 14; refine HC.out.mono ?_; rintro e w3 ⟨rfl, h3⟩)
             | (go_at_call 16; refine (HStr.out w3 h3.out).mono ?_; rintro e w4 ⟨rfl, h4⟩)
             | fail)
           go_ret
           exact ⟨rfl, h4⟩)
end Go.Proofs.YtcbepmjojppokaaDoor
