/-
  The walk of caesuralaw1.CodecBack.
-/
import Derived.Test.YtageiccempcbaaaDoorRt2W
import Derived.Test.YtageiccempcbaaaDoorOneW
import Derived.Test.YtageiccempcbaaaDoorSteps
namespace Go.Proofs.YtageiccempcbaaaDoor
open Go.RowKit
/-- A list of steps in memory. -/
structure StsAt (w : World) (a : Option Addr) (S : List St) : Prop where
  at' : ∀ (k : Nat) (t : St), S[k]? = some t → ∃ g off, a = some ⟨g, off, none⟩ ∧ g < w.heap.size ∧ w.cell? ⟨g, off + k * 3, none⟩ = some (.bool t.wd) ∧ w.cell? ⟨g, off + k * 3 + 1, none⟩ = some (.int .i64 t.n) ∧ w.cell? ⟨g, off + k * 3 + 2, none⟩ = some (.string t.s)
set_option maxRecDepth 10000 in
set_option maxHeartbeats 1600000 in
theorem back_walk (S : List St) (a : Option Addr) (cap : Nat) (P : ByteArray) (z : Value) (pa ps pf : Addr) (w : World) (hs : stBulk S ≤ 1048576) (hn : ∀ t ∈ S, -9223372036854775808 ≤ t.n ∧ t.n ≤ 9223372036854775807) (hS : StsAt w a S) (ht : TabAt w) (hE : Errs w pa ps pf) :
    Calls Tryd.prog 8 #[.agg #[.slice a S.length cap, .string P, z]] w fun e w' => e = .returned (.bool true) ∧ Below w.heap.size w w' := by
  have hSl : S.length ≤ 1048576 := Nat.le_trans (len_bulk S) hs
  have HS := hid0 hS
  have HE := hid0 hE
  have HN := hid0 hn
  have HL1 : Hid (Later w w.heap.size (.slice a S.length cap) (.string P) z (w.alloc (.cells #[.slice a S.length cap, .string P, z] 60))) := Later.start ht
  clear hS hE ht hn
  go_enter Tryd.func8, Tryd.ntmps8
  go_wp2_with (first
    | (go_at_call 17; have hq := HL1.out; clear HL1; refine (known_any _ hq.tab).mono ?_; rintro e w2 ⟨rfl, hb2⟩; have HL2 := hid0 (hq.next hb2); clear hq hb2)
    | (go_at_call 20; have hq := HL2.out; clear HL2; refine (newWriter_any _).mono ?_; rintro e w5 ⟨rfl, hw5⟩; have HL5 : Hid (Later w w.heap.size (.slice a S.length cap) (.string P) z w5) := (by rw [hw5]; exact hq.next (alloc_below _ _)); have HW5 : Hid (Wr w5 w2.heap.size (.slice none 0 0) []) := (by rw [hw5]; exact wr_new w2); have hB : w.heap.size < w2.heap.size := hq.lt; obtain ⟨c0, c1, c2⟩ := HL5.out.box; clear hq hw5)
    | fail)
  go_loopw [3, 5] (fun s i wr => ∃ (k : Nat) (u : Value), k ≤ S.length ∧ i = .int .i64 (k : Int) ∧ s = .bool true ∧ Wr wr w2.heap.size u (put (S.take k)) ∧ (∀ j, u.ownBlock = some j → w.heap.size < j) ∧ Later w w.heap.size (.slice a S.length cap) (.string P) z wr) (fun _ i _ => S.length - (intOf i).toNat)
  case atStart => exact ⟨0, .slice none 0 0, Nat.zero_le _, rfl, rfl, HW5.out, fun j hj => by simp [Value.ownBlock] at hj, HL5.out⟩
  case round =>
    obtain ⟨k, u, hk, rfl, rfl, hwr, hu, hL⟩ := hrel
    clear HW5 HL5 c0 c1 c2
    have HW := hid0 hwr
    have HU := hid0 hu
    have HL := hid0 hL
    obtain ⟨c0, c1, c2⟩ := HL.out.box
    clear hwr hu hL
    cases hkS : S[k]? with
    | none =>
      have hkn : k = S.length := by have := List.getElem?_eq_none_iff.1 hkS; omega
      have hkI : ¬ (k : Int) < (S.length : Int) := by omega
      have hpl := bulk_all S 0 hs
      rw [List.drop_zero] at hpl
      rw [hkn, List.take_length] at HW
      have HP := hid0 hpl
      clear hkS hpl
      go_wp2_with (first
        | (go_at_call 24; have hq := HW.out; clear HW; refine (wrBytes_any _ _ _ _ hq HP.out).mono ?_; rintro e w9 ⟨v9, rfl, ho9, hb9⟩; have HL9 := hid0 (HL.out.next hb9); have HO9 := hid0 ho9; clear hq hb9 ho9 HL c0 c1 c2)
        | (go_at_call 19; have hq := HL9.out; clear HL9; refine (newReader_any (put S) _ _ HP.out HO9.out.bytesAt HO9.out.inMem).mono ?_; rintro e w10 ⟨R, v10, rfl, hR10, hv10, hrd10, hb10⟩; have HLA := hid0 (hq.next hb10); have HRA := hid0 hrd10; have hRn : w.heap.size < R := Nat.lt_of_lt_of_le hq.lt hR10; have HVA : Hid (∀ k, v10.ownBlock = some k → w.heap.size < k) := (fun k hk => Nat.lt_of_lt_of_le hq.lt (hv10 k hk)); obtain ⟨c0, c1, c2⟩ := HLA.out.box; clear hq hb10 hrd10 hv10 HO9 hR10)
        | fail)
      go_loopw [8] (fun i wr => ∃ (k : Nat) (u : Value), k ≤ S.length ∧ i = .int .i64 (k : Int) ∧ Rd wr R u (put (S.drop k)) ∧ (∀ j, u.ownBlock = some j → w.heap.size < j) ∧ Later w w.heap.size (.slice a S.length cap) (.string P) z wr) (fun i _ => S.length - (intOf i).toNat)
      case atStart => exact ⟨0, v10, Nat.zero_le _, rfl, HRA.out, HVA.out, HLA.out⟩
      case round =>
        obtain ⟨k, u, hk, rfl, hrd, hu, hL⟩ := hrel
        clear HRA HVA HLA c0 c1 c2 hkn hkI
        have HR := hid0 hrd
        have HU := hid0 hu
        have HL := hid0 hL
        obtain ⟨c0, c1, c2⟩ := HL.out.box
        clear hrd hu hL
        cases hkS : S[k]? with
        | none =>
          have hkn : k = S.length := by have := List.getElem?_eq_none_iff.1 hkS; omega
          have hkI : ¬ (k : Int) < (S.length : Int) := by omega
          have hput : put (S.drop k) = [] := by rw [hkn, List.drop_length]; rfl
          rw [hput] at HR
          clear hkS hput
          go_wp2_with (go_at_call 22; refine (rdLeft_any R _ _ _ HR.out).mono ?_; rintro e w7 ⟨rfl, rfl⟩)
          go_ret
          exact ⟨rfl, HL.out.bel⟩
        | some t =>
          have hkl : k < S.length := (List.getElem?_eq_some_iff.1 hkS).1
          obtain ⟨g, off, rfl, hg, s0, s1, s2⟩ := HS.out.at' k t hkS
          have d0 := (HL.out.bel.cell (p := ⟨g, off + k * 3, none⟩) hg).trans s0
          have d1 := (HL.out.bel.cell (p := ⟨g, off + k * 3 + 1, none⟩) hg).trans s1
          have d2 := (HL.out.bel.cell (p := ⟨g, off + k * 3 + 2, none⟩) hg).trans s2
          clear s0 s1 s2
          have hpt := put_drop S k t hkS
          have hnb := HN.out t (List.mem_of_getElem? hkS)
          have hbk := bulk_all S k hs
          clear hkS HN HS
          have hkI : (k : Int) < (S.length : Int) := by omega
          have hkI0 : (0 : Int) ≤ (k : Int) := by omega
          obtain ⟨wd, n, s⟩ := t
          dsimp only at d0 d1 d2 hnb
          cases wd with
          | true =>
            rw [enc_text _ rfl] at hpt
            have hs63 : s.size < 9223372036854775808 := by have := hpt ▸ hbk; simp at this; omega
            have hnum : num (put (S.drop k)) = .ok s.size (form 9 s.size).length := by rw [hpt, List.append_assoc]; exact num_back _ _ hs63
            have hle : (form 9 s.size).length + s.size ≤ (put (S.drop k)).length := by rw [hpt]; simp
            have hstr : (⟨(((put (S.drop k)).drop (form 9 s.size).length).take s.size).toArray⟩ : ByteArray) = s := by
              rw [hpt, List.append_assoc, List.drop_left, List.take_left' (by simp)]
            have hrest : (put (S.drop k)).drop ((form 9 s.size).length + s.size) = put (S.drop (k + 1)) := by
              rw [hpt, List.drop_left' (by simp)]
            have HT : Hid (∀ W, Rd W R u (put (S.drop k)) → Errs W pa ps pf → Calls Tryd.prog 26 #[.pointer (some ⟨R, 0, none⟩), .int .i64 (s.size : Int)] W fun e w' => e = .returned (.tuple #[.string s, .nilIface]) ∧ ∃ v', Rd w' R v' (put (S.drop (k + 1))) ∧ Only W w' (fun i => i = R) ∧ (∀ k, v'.ownBlock = some k → u.ownBlock = some k)) := by
              intro W h1 h2
              have h3 := rdText_ok R u _ W ps pf (s.size : Int) s.size _ hbk h1 h2.short h2.form hnum (Int.le_refl _) hle
              rw [hstr, hrest] at h3
              exact h3
            clear hpt hs63 hnum hle hstr hrest hnb hbk
            have hA : Hid (Below wr.heap.size wr (wr.alloc (.cells #[.bool true, .int .i64 n, .string s] 62))) := alloc_below _ _
            go_wp2_with (go_at_call 26; (have hq := HR.out; clear HR; refine (HT.out _ (hq.later hA.out) (HE.out.at (HL.out.next hA.out))).mono ?_; rintro e w7 ⟨rfl, u7, hr7, ho7, hn7⟩; have HR7 := hid0 hr7; have HO7 := hid0 hn7; have HL7 := hid0 ((HL.out.next hA.out).only ho7 (fun i hi => hi ▸ hRn)); have b2 := (ho7.cell (p := ⟨wr.heap.size, 2, none⟩) (by simp) (fun e => absurd hq.lt (by simp at e; omega))).trans (box3 (Below.refl _ _)).2.2; obtain ⟨c0, c1, c2⟩ := HL7.out.box; clear hr7 ho7 hn7 hq d0 d1 d2))
            go_roundw
            case rel => exact ⟨k + 1, u7, hkl, by go_num, HR7.out, fun j hj => HU.out j (HO7.out j hj), HL7.out⟩
            case measure => simp [intOf]; omega
          | false =>
            by_cases hneg : n < 0
            · rw [enc_neg _ rfl hneg, List.nil_append] at hpt
              have HPT := hid0 hpt
              clear hpt hbk
              go_wp2
              go_roundw
              case rel => exact ⟨k + 1, u, hkl, by go_num, by rw [← HPT.out]; exact HR.out.later (alloc_below _ _), HU.out, HL.out.next (alloc_below _ _)⟩
              case measure => simp [intOf]; omega
            · obtain ⟨m, rfl⟩ : ∃ m : Nat, n = (m : Int) := ⟨n.toNat, by omega⟩
              rw [enc_num _ rfl m rfl] at hpt
              have hm63 : m < 9223372036854775808 := by omega
              have hnum : num (put (S.drop k)) = .ok m (form 9 m).length := by rw [hpt]; exact num_back _ _ hm63
              have hrest : (put (S.drop k)).drop (form 9 m).length = put (S.drop (k + 1)) := by rw [hpt, List.drop_left]
              have HT : Hid (∀ W, Rd W R u (put (S.drop k)) → Errs W pa ps pf → Calls Tryd.prog 21 #[.pointer (some ⟨R, 0, none⟩)] W fun e w' => e = .returned (.tuple #[.int .i64 (m : Int), .nilIface]) ∧ ∃ v', Rd w' R v' (put (S.drop (k + 1))) ∧ Only W w' (fun i => i = R) ∧ (∀ k, v'.ownBlock = some k → u.ownBlock = some k)) := by
                intro W h1 h2
                have h3 := rdNum_any R u _ W ps pf hbk h1 h2.short h2.form
                rw [hnum, rdVal, rdRest, hrest] at h3
                exact h3
              clear hpt hnum hrest hbk hneg
              have hm0 : (0 : Int) ≤ (m : Int) := by omega
              have hA : Hid (Below wr.heap.size wr (wr.alloc (.cells #[.bool false, .int .i64 (m : Int), .string s] 62))) := alloc_below _ _
              go_wp2_with (go_at_call 21; (have hq := HR.out; clear HR; refine (HT.out _ (hq.later hA.out) (HE.out.at (HL.out.next hA.out))).mono ?_; rintro e w7 ⟨rfl, u7, hr7, ho7, hn7⟩; have HR7 := hid0 hr7; have HO7 := hid0 hn7; have HL7 := hid0 ((HL.out.next hA.out).only ho7 (fun i hi => hi ▸ hRn)); have b1 := (ho7.cell (p := ⟨wr.heap.size, 1, none⟩) (by simp) (fun e => absurd hq.lt (by simp at e; omega))).trans (box3 (Below.refl _ _)).2.1; obtain ⟨c0, c1, c2⟩ := HL7.out.box; clear hr7 ho7 hn7 hq d0 d1 d2))
              go_roundw
              case rel => exact ⟨k + 1, u7, hkl, by go_num, HR7.out, fun j hj => HU.out j (HO7.out j hj), HL7.out⟩
              case measure => simp [intOf]; omega
    | some t =>
      have hkl : k < S.length := (List.getElem?_eq_some_iff.1 hkS).1
      obtain ⟨g, off, rfl, hg, s0, s1, s2⟩ := HS.out.at' k t hkS
      have d0 := (HL.out.bel.cell (p := ⟨g, off + k * 3, none⟩) hg).trans s0
      have d1 := (HL.out.bel.cell (p := ⟨g, off + k * 3 + 1, none⟩) hg).trans s1
      have d2 := (HL.out.bel.cell (p := ⟨g, off + k * 3 + 2, none⟩) hg).trans s2
      clear s0 s1 s2
      have hbk := bulk_at S k t hkS hs
      have hpt := put_take S k t hkS
      have hnb := HN.out t (List.mem_of_getElem? hkS)
      clear hkS HN HS
      have hkI : (k : Int) < (S.length : Int) := by omega
      have hkI0 : (0 : Int) ≤ (k : Int) := by omega
      obtain ⟨wd, n, s⟩ := t
      dsimp only at d0 d1 d2 hbk hnb
      have HB := hid0 hbk
      cases wd with
      | true =>
        rw [enc_text _ rfl] at hpt
        have HPT := hid0 hpt
        clear hpt hbk hnb
        go_wp2_with (go_at_call 25; have hq := HW.out; clear HW; refine (wrText_gen s _ _ _ _ hq HB.out).mono ?_; rintro e w7 ⟨rfl, u7, hr7, ho7, hn7⟩; have HR7 := hid0 hr7; have HL7 := hid0 (HL.out.only ho7 (fun i hi => hi.elim (fun h => h ▸ hB) (fun h => HU.out i h))); have HO7 := hid0 hn7; have hz7 := hq.lt; obtain ⟨c0, c1, c2⟩ := HL7.out.box; clear hr7 ho7 hn7 hq d0 d1 d2)
        go_roundw
        case rel => exact ⟨k + 1, u7, hkl, by go_num, rfl, by rw [HPT.out]; exact HR7.out, fun j hj => (HO7.out j hj).elim (fun h => HU.out j h) (fun h => Nat.lt_of_lt_of_le HL.out.lt h), HL7.out⟩
        case measure => simp [intOf]; omega
      | false =>
        by_cases hneg : n < 0
        · rw [enc_neg _ rfl hneg, List.append_nil] at hpt
          have HPT := hid0 hpt
          clear hpt hbk
          go_wp2_with (go_at_call 23; refine (wrNum_neg n hneg _ _ _ (HE.out.at HL.out).arg).mono ?_; rintro e w7 ⟨rfl, rfl⟩)
          go_quiet ((fail))
          go_wp2
          go_roundw
          case rel => exact ⟨k + 1, u, hkl, by go_num, by rw [decide_eq_false (by omega)]; rfl, by rw [HPT.out]; exact HW.out.drewN _, HU.out, HL.out.drewN _⟩
          case measure => simp [intOf]; omega
        · obtain ⟨m, rfl⟩ : ∃ m : Nat, n = (m : Int) := ⟨n.toNat, by omega⟩
          rw [enc_num _ rfl m rfl] at hpt
          have HPT := hid0 hpt
          have hm63 : m < 9223372036854775808 := by omega
          have HNS : Hid (∀ i, i < w.heap.size → ¬ Wr.S w2.heap.size u i) := by
            intro i hi h
            rcases h with h | h
            · omega
            · have := HU.out i h; omega
          clear hpt hbk
          go_wp2_with (go_at_call 23; (have hq := HW.out; clear HW; refine (wrNum_gen m hm63 _ _ _ _ hq (by have := HB.out; omega)).mono ?_; rintro e w7 ⟨rfl, u7, hr7, ho7, hn7⟩; have HR7 := hid0 hr7; have HL7 := hid0 (HL.out.only ho7 (fun i hi => hi.elim (fun h => h ▸ hB) (fun h => HU.out i h))); have HO7 := hid0 hn7; have e1 := (ho7.cell (p := ⟨g, off + k * 3 + 1, none⟩) (Nat.lt_of_lt_of_le hg HL.out.bel.size) (HNS.out g hg)).trans d1; obtain ⟨c0, c1, c2⟩ := HL7.out.box; clear hr7 ho7 hn7 hq d0 d1 d2))
          go_quiet ((fail))
          go_wp2
          go_roundw
          case rel => exact ⟨k + 1, u7, hkl, by go_num, rfl, by rw [HPT.out]; exact HR7.out.drewN _, fun j hj => (HO7.out j hj).elim (fun h => HU.out j h) (fun h => Nat.lt_of_lt_of_le HL.out.lt h), HL7.out.drewN _⟩
          case measure => simp [intOf]; omega
end Go.Proofs.YtageiccempcbaaaDoor
