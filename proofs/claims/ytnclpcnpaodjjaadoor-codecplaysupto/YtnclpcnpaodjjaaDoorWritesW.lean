/-
  The walk of caesuralaw1.writes.
-/
import Derived.Test.YtnclpcnpaodjjaaDoorRefTW
import Derived.Test.YtnclpcnpaodjjaaDoorSentW
import Derived.Test.YtnclpcnpaodjjaaDoorSteps
import Derived.Deep.DeepCutAuto
namespace Go.Proofs.YtnclpcnpaodjjaaDoor
open Go.RowKit
/-- A list of steps in memory. -/
structure StsAt (w : World) (a : Option Addr) (S : List St) : Prop where
  at' : ∀ (k : Nat) (t : St), S[k]? = some t → ∃ g off, a = some ⟨g, off, none⟩ ∧ g < w.heap.size ∧ w.cell? ⟨g, off + k * 3, none⟩ = some (.bool t.wd) ∧ w.cell? ⟨g, off + k * 3 + 1, none⟩ = some (.int .i64 t.n) ∧ w.cell? ⟨g, off + k * 3 + 2, none⟩ = some (.string t.s)
/-- The two writers side by side, in memory of the call's own. -/
structure Two (w wr : World) (A B : Nat) (u v : Value) (l : List UInt8) : Prop where
  bel : Below w.heap.size w wr
  hA : w.heap.size ≤ A
  hB : w.heap.size ≤ B
  ne : A ≠ B
  cw : Wr wr A u l
  rf : RWr wr B v l
  hu : ∀ k, u.ownBlock = some k → w.heap.size ≤ k
  hv : ∀ k, v.ownBlock = some k → w.heap.size ≤ k
  sep : ∀ k, u.ownBlock = some k → ¬ v.ownBlock = some k
theorem Two.later {w wr w' : World} {A B : Nat} {u v : Value} {l : List UInt8} (h : Two w wr A B u v l) (hb : Below wr.heap.size wr w') : Two w w' A B u v l :=
  ⟨h.bel.trans (hb.mono h.bel.size), h.hA, h.hB, h.ne, h.cw.below hb, h.rf.later hb, h.hu, h.hv, h.sep⟩
/-- The one has put something, the other has not yet. -/
structure Half (w wr : World) (A B : Nat) (u v : Value) (m l : List UInt8) : Prop where
  bel : Below w.heap.size w wr
  hA : w.heap.size ≤ A
  hB : w.heap.size ≤ B
  ne : A ≠ B
  cw : Wr wr A u m
  rf : RWr wr B v l
  hu : ∀ k, u.ownBlock = some k → w.heap.size ≤ k
  hv : ∀ k, v.ownBlock = some k → w.heap.size ≤ k
  sep : ∀ k, u.ownBlock = some k → ¬ v.ownBlock = some k
theorem Two.first {w wr w' : World} {A B : Nat} {u v u' : Value} {l m : List UInt8} (h : Two w wr A B u v l) (hw : Wr w' A u' m) (ho : Only wr w' (Wr.S A u)) (hn : ∀ k, u'.ownBlock = some k → u.ownBlock = some k ∨ wr.heap.size ≤ k) : Half w w' A B u' v m l := by
  have hvlt : ∀ k, v.ownBlock = some k → k < wr.heap.size := fun k hk => h.rf.own.block_lt hk
  have hlt : ∀ k, v.ownBlock = some k → ¬ Wr.S A u k := fun k hk hs => by
    rcases hs with rfl | hs
    · exact h.rf.own.seg.ne (t := 73) h.cw.blk (by decide) hk
    · exact h.sep k hs hk
  have hBs : ¬ Wr.S A u B := fun hs => by
    rcases hs with hs | hs
    · exact h.ne hs.symm
    · exact h.cw.own.seg.ne (t := 75) h.rf.blk (by decide) hs
  refine ⟨h.bel.trans (ho.below h.bel.size (fun i hi => hi.elim (fun e => e ▸ h.hA) (fun e => h.hu i e))), h.hA, h.hB, h.ne, hw, h.rf.only ho hBs hlt, fun k hk => (hn k hk).elim (h.hu k) (fun e => Nat.le_trans h.bel.size e), h.hv, fun k hk hk2 => ?_⟩
  rcases hn k hk with e | e
  · exact h.sep k e hk2
  · have := hvlt k hk2; omega
theorem Half.second {w wr w' : World} {A B : Nat} {u v v' : Value} {l m : List UInt8} (h : Half w wr A B u v m l) (hw : RWr w' B v' m) (ho : Only wr w' (Wr.S B v)) (hn : ∀ k, v'.ownBlock = some k → v.ownBlock = some k ∨ wr.heap.size ≤ k) : Two w w' A B u v' m := by
  have hult : ∀ k, u.ownBlock = some k → k < wr.heap.size := fun k hk => h.cw.own.block_lt hk
  have hlt : ∀ k, u.ownBlock = some k → ¬ Wr.S B v k := fun k hk hs => by
    rcases hs with rfl | hs
    · exact h.cw.own.seg.ne (t := 75) h.rf.blk (by decide) hk
    · exact h.sep k hk hs
  have hAs : ¬ Wr.S B v A := fun hs => by
    rcases hs with hs | hs
    · exact h.ne hs
    · exact h.rf.own.seg.ne (t := 73) h.cw.blk (by decide) hs
  refine ⟨h.bel.trans (ho.below h.bel.size (fun i hi => hi.elim (fun e => e ▸ h.hB) (fun e => h.hv i e))), h.hA, h.hB, h.ne, h.cw.only ho hAs hlt, hw, h.hu, fun k hk => (hn k hk).elim (h.hv k) (fun e => Nat.le_trans h.bel.size e), fun k hk hk2 => ?_⟩
  rcases hn k hk2 with e | e
  · exact h.sep k hk e
  · have := hult k hk; omega
theorem kitNum_arg (w : World) (A : Nat → Addr) (h : Sents w A) : Calls Tryd.prog 15 #[.iface 87 (.pointer (some (A 0)))] w fun e w' => e = .returned (.int .i64 1) ∧ w' = w := kitNum_at w A h 0 (by omega)
theorem Two.drew {w wr : World} {A B : Nat} {u v : Value} {l : List UInt8} (h : Two w wr A B u v l) : Two w wr.drew A B u v l := h.later (Below.refl _ _).drew
set_option maxRecDepth 10000 in
set_option maxHeartbeats 1600000 in
theorem writes_any (S : List St) (a : Option Addr) (cap : Nat) (Z : Nat → Addr) (w : World) (hs : stBulk S ≤ 1048576) (hn : ∀ t ∈ S, -9223372036854775808 ≤ t.n ∧ t.n ≤ 9223372036854775807) (hS : StsAt w a S) (hE : Sents w Z) :
    Calls Tryd.prog 5 #[.slice a S.length cap] w fun e w' => e = .returned (.bool true) ∧ Below w.heap.size w w' := by
  have hSl : S.length ≤ 1048576 := Nat.le_trans (len_bulk S) hs
  have HS := hid0 hS
  have HE := hid0 hE
  have HN := hid0 hn
  clear hS hE hn
  go_enter Tryd.func5, Tryd.ntmps5
  go_wp2_with (first
    | (go_at_call 19; refine (newWriter_any _).mono ?_; rintro e w1 ⟨rfl, hw1⟩; have HW1 := hid0 hw1; clear hw1)
    | (go_at_call 20; refine (refNew_any _).mono ?_; rintro e w2 ⟨rfl, hw2⟩; have HW2 := hid0 hw2; clear hw2)
    | fail)
  have HT : Hid (Two w w2 w.heap.size w1.heap.size (.slice none 0 0) (.slice none 0 0) []) := by
    have h1 := HW1.out
    have h2 := HW2.out
    have b1 : Below w.heap.size w w1 := by rw [h1]; exact alloc_below _ _
    have b2 : Below w1.heap.size w1 w2 := by rw [h2]; exact alloc_below _ _
    have k1 : w.heap.size < w1.heap.size := by rw [h1]; simp
    exact ⟨b1.trans (b2.mono b1.size), Nat.le_refl _, b1.size, by omega, by have := wr_new w; rw [← h1] at this; exact this.below b2, by rw [h2]; exact rwr_new w1, fun k hk => by simp [Value.ownBlock] at hk, fun k hk => by simp [Value.ownBlock] at hk, fun k hk => by simp [Value.ownBlock] at hk⟩
  clear HW1 HW2
  go_loopw [5] (fun i wr => ∃ (k : Nat) (u v : Value), k ≤ S.length ∧ i = .int .i64 (k : Int) ∧ Two w wr w.heap.size w1.heap.size u v (put (S.take k))) (fun i _ => S.length - (intOf i).toNat)
  case atStart => exact ⟨0, _, _, Nat.zero_le _, rfl, HT.out⟩
  case round =>
    obtain ⟨k, u, v, hk, rfl, hT⟩ := hrel
    clear HT
    have HT := hid0 hT
    clear hT
    cases hkS : S[k]? with
    | none =>
      have hkI : ¬ (k : Int) < (S.length : Int) := by have := List.getElem?_eq_none_iff.1 hkS; omega
      clear hkS
      go_wp2
      go_ret
      exact ⟨rfl, HT.out.bel⟩
    | some t =>
      have hkl : k < S.length := (List.getElem?_eq_some_iff.1 hkS).1
      obtain ⟨g, off, rfl, hg, s0, s1, s2⟩ := HS.out.at' k t hkS
      have d0 := (HT.out.bel.cell (p := ⟨g, off + k * 3, none⟩) hg).trans s0
      have d1 := (HT.out.bel.cell (p := ⟨g, off + k * 3 + 1, none⟩) hg).trans s1
      have d2 := (HT.out.bel.cell (p := ⟨g, off + k * 3 + 2, none⟩) hg).trans s2
      have hbk := bulk_at S k t hkS hs
      have hpt := put_take S k t hkS
      have hnb := HN.out t (List.mem_of_getElem? hkS)
      have hpl : (put (S.take (k + 1))).length ≤ 536870912 := by
        rw [hpt, List.length_append]
        have := enc_le t
        omega
      clear hkS HN HS
      have hkI : (k : Int) < (S.length : Int) := by omega
      have hkI0 : (0 : Int) ≤ (k : Int) := by omega
      obtain ⟨wd, n, s⟩ := t
      dsimp only at d0 d1 d2 hbk hnb s0 s1 s2
      have HB := hid0 hbk
      have HP := hid0 hpl
      cases wd with
      | true =>
        rw [enc_text _ rfl] at hpt
        have HPT := hid0 hpt
        have HC1 := hid0 s1
        have HC2 := hid0 s2
        clear hpt hbk hnb hpl s0 s1 s2
        go_wp2_with (first
          | (go_at_call 21; have hq := HT.out; clear HT; refine (wrText_gen s _ _ _ _ hq.cw HB.out).mono ?_; rintro e w7 ⟨rfl, u7, hr7, ho7, hn7⟩; have HH := hid0 (hq.first hr7 ho7 hn7); have d2 := (HH.out.bel.cell (p := ⟨g, off + k * 3 + 2, none⟩) hg).trans HC2.out; clear hr7 ho7 hn7 hq)
          | (go_at_call 22; have hq := HH.out; clear HH; refine (refText_any s _ _ _ _ hq.rf HB.out).mono ?_; rintro e w8 ⟨rfl, u8, hr8, ho8, hn8⟩; have HT2 := hid0 (hq.second hr8 ho8 hn8); rw [← HPT.out] at HT2; clear hr8 ho8 hn8 hq)
          | (go_at_call 26; have hq := HT2.out; clear HT2; refine (refBytes_any _ _ _ _ hq.rf HP.out).mono ?_; rintro e w9 ⟨v9, rfl, ho9, hb9⟩; have HT3 := hid0 (hq.later hb9); have HO9 := hid0 ho9; clear hq ho9 hb9)
          | (go_at_call 25; have hq := HT3.out; clear HT3; refine (apart_any _ _ _ _ _ (by have := HP.out; omega) hq.cw (HO9.out.base_le (Nat.zero_le _))).mono ?_; rintro e w10 ⟨rfl, hb10⟩; have HT4 := hid0 (hq.later hb10); clear hq hb10)
          | fail)
        go_roundw
        case rel => exact ⟨k + 1, _, _, hkl, by go_num, HT4.out⟩
        case measure => simp [intOf]; omega
      | false =>
        by_cases hneg : n < 0
        · rw [enc_neg _ rfl hneg, List.append_nil] at hpt
          have HPT := hid0 hpt
          have HC1 := hid0 s1
          clear hpt hbk hpl s0 s1 s2
          go_wp2_with (go_at_call 23; refine (wrNum_neg n hneg _ _ _ (HE.out.below HT.out.bel).c0).mono ?_; rintro e w7 ⟨rfl, rfl⟩)
          have HT2 := hid0 HT.out.drew
          rw [← HPT.out] at HT2
          have HEd := hid0 (HE.out.below HT.out.drew.bel)
          go_region_held3 (fun w' => w'.cell? ⟨g, off + k * 3 + 1, none⟩ = some (.int .i64 n)) (go_keep)
            (first
            | (go_at_call 15; refine (kitNum_arg _ Z HEd.out).mono ?_; rintro e w8 ⟨rfl, rfl⟩)
            | (go_at_call 24; refine (refNum_neg n hneg _ _).mono ?_; rintro e w8 ⟨rfl, rfl⟩))
          all_goals
            go_wp2_with (first
              | (go_at_call 26; have hq := HT2.out; clear HT2; refine (refBytes_any _ _ _ _ hq.rf HP.out).mono ?_; rintro e w9 ⟨v9, rfl, ho9, hb9⟩; have HT3 := hid0 (hq.later hb9); have HO9 := hid0 ho9; clear hq ho9 hb9)
              | (go_at_call 25; have hq := HT3.out; clear HT3; refine (apart_any _ _ _ _ _ (by have := HP.out; omega) hq.cw (HO9.out.base_le (Nat.zero_le _))).mono ?_; rintro e w10 ⟨rfl, hb10⟩; have HT4 := hid0 (hq.later hb10); clear hq hb10)
              | fail)
            go_roundw
            case rel => exact ⟨k + 1, _, _, hkl, by go_num, HT4.out⟩
            case measure => simp [intOf]; omega
        · obtain ⟨m, rfl⟩ : ∃ m : Nat, n = (m : Int) := ⟨n.toNat, by omega⟩
          rw [enc_num _ rfl m rfl] at hpt
          have HPT := hid0 hpt
          have hm63 : m < 9223372036854775808 := by omega
          have HC1 := hid0 s1
          clear hpt hbk hpl s0 s1 s2
          go_wp2_with (go_at_call 23; have hq := HT.out; clear HT; refine (wrNum_gen m hm63 _ _ _ _ hq.cw (by have := HB.out; omega)).mono ?_; rintro e w7 ⟨rfl, u7, hr7, ho7, hn7⟩; have HH := hid0 (hq.first hr7 ho7 hn7); have d1 := (HH.out.bel.cell (p := ⟨g, off + k * 3 + 1, none⟩) hg).trans HC1.out; clear hr7 ho7 hn7 hq)
          have HHd : Hid (Half w w7.drew w.heap.size w1.heap.size u7 v (put (S.take k) ++ form 9 m) (put (S.take k))) := ⟨HH.out.bel.drew, HH.out.hA, HH.out.hB, HH.out.ne, ⟨HH.out.cw.blk, HH.out.cw.own, HH.out.cw.room⟩, ⟨HH.out.rf.blk, HH.out.rf.own⟩, HH.out.hu, HH.out.hv, HH.out.sep⟩
          go_region_held3 (fun w' => w'.cell? ⟨g, off + k * 3 + 1, none⟩ = some (.int .i64 (m : Int))) (first | go_keep | exact e1)
            (first
            | (go_at_call 15; refine (kitNum_nil _).mono ?_; rintro e w8 ⟨rfl, rfl⟩)
            | (go_at_call 24; refine (refNum_any m hm63 _ _ _ _ HHd.out.rf (by have := HB.out; omega)).mono ?_; rintro e w8 ⟨rfl, u8, hr8, ho8, hn8⟩; have HT2 := hid0 (HHd.out.second hr8 ho8 hn8); have e1 := (HT2.out.bel.cell (p := ⟨g, off + k * 3 + 1, none⟩) hg).trans HC1.out; rw [← HPT.out] at HT2; clear hr8 ho8 hn8))
          all_goals
            go_wp2_with (first
              | (go_at_call 26; have hq := HT2.out; clear HT2; refine (refBytes_any _ _ _ _ hq.rf HP.out).mono ?_; rintro e w9 ⟨v9, rfl, ho9, hb9⟩; have HT3 := hid0 (hq.later hb9); have HO9 := hid0 ho9; clear hq ho9 hb9)
              | (go_at_call 25; have hq := HT3.out; clear HT3; refine (apart_any _ _ _ _ _ (by have := HP.out; omega) hq.cw (HO9.out.base_le (Nat.zero_le _))).mono ?_; rintro e w10 ⟨rfl, hb10⟩; have HT4 := hid0 (hq.later hb10); clear hq hb10)
              | fail)
            go_roundw
            case rel => exact ⟨k + 1, _, _, hkl, by go_num, HT4.out⟩
            case measure => simp [intOf]; omega
end Go.Proofs.YtnclpcnpaodjjaaDoor
