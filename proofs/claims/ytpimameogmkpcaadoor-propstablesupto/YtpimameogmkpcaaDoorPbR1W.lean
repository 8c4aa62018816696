/-
  The walks of caesuraref5's letter, IsName, has, names.
-/
import Derived.Test.YtpimameogmkpcaaDoorPbCnW
namespace Go.Proofs.YtpimameogmkpcaaDoor
open Go.RowKit
theorem isNm_all (l : By) (h : ∀ j c, l[j]? = some c → gd j c = true) : isNm l = (decide (1 ≤ l.length) && decide (l.length ≤ 32)) := by
  rw [Bool.eq_iff_iff, isNm_iff]
  simp only [Bool.and_eq_true, decide_eq_true_eq]
  exact ⟨fun ⟨a, b, _⟩ => ⟨a, b⟩, fun ⟨a, b⟩ => ⟨a, b, h⟩⟩
theorem u95 (c : UInt8) : (c == 95) = decide ((c.toNat : Int) = 95) := by
  rw [Bool.eq_iff_iff, beq_iff_eq, decide_eq_true_eq]
  constructor
  · rintro rfl; rfl
  · intro h
    exact UInt8.toNat_inj.1 (by have : (95 : UInt8).toNat = 95 := rfl; omega)
set_option maxRecDepth 10000 in
set_option maxHeartbeats 800000 in
theorem refLetter_any (c : UInt8) (w : World) : Calls Tryd.prog 53 #[.int .u8 (c.toNat : Int)] w fun e w' => e = .returned (.bool (isLt c)) ∧ w' = w := by
  rw [isLt_int c _ rfl]
  have h0 : (0 : Int) ≤ (c.toNat : Int) := by omega
  generalize (c.toNat : Int) = x at h0
  by_cases a0 : 65 ≤ x <;> by_cases a1 : x ≤ 90 <;> by_cases a2 : 97 ≤ x <;> by_cases a3 : x ≤ 122 <;> first
    | (exfalso; omega)
    | (have hb : ((decide (65 ≤ x) && decide (x ≤ 90)) || (decide (97 ≤ x) && decide (x ≤ 122))) = true := by
         simp only [Bool.or_eq_true, Bool.and_eq_true, decide_eq_true_eq]; omega
       rw [hb]
       clear hb
       go_enter Tryd.func53, Tryd.ntmps53
       go_wp2
       go_ret
       exact ⟨rfl, rfl⟩)
    | (have hb : ((decide (65 ≤ x) && decide (x ≤ 90)) || (decide (97 ≤ x) && decide (x ≤ 122))) = false := by
         rw [Bool.eq_false_iff]; simp only [ne_eq, Bool.or_eq_true, Bool.and_eq_true, decide_eq_true_eq]; omega
       rw [hb]
       clear hb
       go_enter Tryd.func53, Tryd.ntmps53
       go_wp2
       go_ret
       exact ⟨rfl, rfl⟩)
set_option maxRecDepth 10000 in
set_option maxHeartbeats 1600000 in
theorem refIsName_any (s : ByteArray) (hs : s.size ≤ 1000000000000) (w : World) : Calls Tryd.prog 51 #[.string s] w fun e w' => e = .returned (.bool (isNm s.data.toList)) ∧ w' = w := by
  go_enter Tryd.func51, Tryd.ntmps51
  go_wp2
  go_loopw [3] (fun i wr => ∃ k : Nat, k ≤ s.size ∧ i = .int .i64 (k : Int) ∧ (∀ j c, j < k → s.data.toList[j]? = some c → gd j c = true) ∧ wr = w) (fun i _ => s.size - (intOf i).toNat)
  case atStart => exact ⟨0, Nat.zero_le _, rfl, fun j c hj => absurd hj (Nat.not_lt_zero _), rfl⟩
  case round =>
    obtain ⟨k, hk, rfl, hall, rfl⟩ := hrel
    have HA := hid0 hall
    clear hall
    by_cases hlt : k < s.size
    · have HC := hid0 (bget s k hlt)
      have HL := hid0 (refLetter_any s[k])
      have hlI : (k : Int) < (s.size : Int) := by omega
      have hlI0 : (0 : Int) ≤ (k : Int) := by omega
      have hx0 : (0 : Int) ≤ (s[k].toNat : Int) := by omega
      have HN : Hid (gd k s[k] = true → ∀ j c, j < k + 1 → s.data.toList[j]? = some c → gd j c = true) := hid0 (fun hg j c hj hc => by
        by_cases e : j = k
        · subst e; rw [HC.out] at hc; obtain rfl := Option.some.inj hc; exact hg
        · exact HA.out j c (by omega) hc)
      have HF : Hid (gd k s[k] = false → isNm s.data.toList = false) := hid0 (fun hg => isNm_bad _ k _ HC.out hg)
      clear HA HC
      obtain ⟨x, hx⟩ : ∃ x : Int, (s[k].toNat : Int) = x := ⟨_, rfl⟩
      have HG : Hid (isLt s[k] = false → k ≠ 0 → gd k s[k] = ((decide (48 ≤ x) && decide (x ≤ 57)) || decide (x = 95))) := hid0 (fun b1 hk0 => by
        have hgd : gd k s[k] = (isDg s[k] || s[k] == 95) := by simp [gd, isNb, b1, hk0]
        rw [hgd, isDg_int s[k] x hx, u95, hx])
      rw [hx] at HL hx0
      have mk : Hid True := trivial
      by_cases b1 : isLt s[k] = true
      · have HN' := hid0 (HN.out (by simp [gd, b1]))
        rw [b1] at HL
        clear HN HF HG b1
        go_wp2_with (clear mk; go_at_call 53; refine (HL.out _).mono ?_; rintro e w2 ⟨rfl, rfl⟩)
        exact ⟨⟨k + 1, by omega, by first | rfl | go_num, HN'.out, trivial⟩, by simp [intOf]; omega⟩
      · have b1' : isLt s[k] = false := by simpa using b1
        rw [b1'] at HL
        by_cases hk0 : k = 0
        · subst hk0
          have HF' := hid0 (HF.out (by simp [gd, b1']))
          clear HN HF HG b1 b1'
          by_cases a0 : 48 ≤ x <;> by_cases a1 : x ≤ 57 <;> first
            | (exfalso; omega)
            | (go_wp2_with (clear mk; go_at_call 53; refine (HL.out _).mono ?_; rintro e w2 ⟨rfl, rfl⟩)
               go_ret
               exact ⟨by rw [HF'.out]; rfl, rfl⟩)
        · have hk0I : ¬ (k : Int) = 0 := by omega
          have HG2 := hid0 (HG.out b1' hk0)
          clear HG b1 b1'
          by_cases a6 : x = 95
          · subst a6
            have HN' := hid0 (HN.out (by rw [HG2.out]; simp))
            clear HG2 HN HF
            go_wp2_with (clear mk; go_at_call 53; refine (HL.out _).mono ?_; rintro e w2 ⟨rfl, rfl⟩)
            exact ⟨⟨k + 1, by omega, by first | rfl | go_num, HN'.out, trivial⟩, by simp [intOf]; omega⟩
          have e6 : (x == 95) = false := by simpa using a6
          by_cases a0 : 48 ≤ x <;> by_cases a1 : x ≤ 57 <;> first
            | (exfalso; omega)
            | (have hg : gd k s[k] = true := by
                 rw [HG2.out]; simp only [Bool.or_eq_true, Bool.and_eq_true, decide_eq_true_eq]; omega
               have HN' := hid0 (HN.out hg)
               clear HG2 HN HF hg
               go_wp2_with (clear mk; go_at_call 53; refine (HL.out _).mono ?_; rintro e w2 ⟨rfl, rfl⟩)
               exact ⟨⟨k + 1, by omega, by first | rfl | go_num, HN'.out, trivial⟩, by simp [intOf]; omega⟩)
            | (have hg : gd k s[k] = false := by
                 rw [HG2.out, Bool.eq_false_iff]; simp only [ne_eq, Bool.or_eq_true, Bool.and_eq_true, decide_eq_true_eq]; omega
               have HF' := hid0 (HF.out hg)
               have e7 : (x != 95) = true := by simpa using a6
               have d2 : (decide (48 ≤ x) && decide (x ≤ 57)) = false := by rw [Bool.eq_false_iff]; simp only [ne_eq, Bool.and_eq_true, decide_eq_true_eq]; omega
               clear HG2 HN HF hg
               go_wp2_with (clear mk; go_at_call 53; refine (HL.out _).mono ?_; rintro e w2 ⟨rfl, rfl⟩)
               · go_ret
                 exact ⟨by rw [HF'.out]; rfl, rfl⟩
               all_goals
                 exfalso
                 rename_i hbad
                 simp only [Bool.not_eq_eq_eq_not, Bool.not_false, decide_eq_true_eq] at hbad
                 omega)
    · have hkI : ¬ (k : Int) < (s.size : Int) := by omega
      have hV : isNm s.data.toList = (decide ((1 : Int) ≤ (s.size : Int)) && decide ((s.size : Int) ≤ 32)) := by
        rw [isNm_all _ (fun j c hc => HA.out j c (by have := (List.getElem?_eq_some_iff.1 hc).1; simp at this; omega) hc), bsize0]
        congr 1 <;> (apply decide_eq_decide.2; omega)
      have HV := hid0 hV
      clear HA hV
      by_cases h1 : (1 : Int) ≤ (s.size : Int) <;> by_cases h2 : (s.size : Int) ≤ 32 <;>
        (go_wp2
         go_ret
         exact ⟨by rw [HV.out]; first | (rw [decide_eq_true h1, decide_eq_true h2]; rfl) | (rw [decide_eq_true h1, decide_eq_false (Int.not_le.2 h2)]; rfl) | (rw [decide_eq_false (Int.not_le.2 h1)]; rfl) | (rw [decide_eq_true h1]; rfl), rfl⟩)
set_option maxRecDepth 10000 in
set_option maxHeartbeats 800000 in
theorem refHas_any (L : List ByteArray) (a : Option Addr) (len cap : Nat) (x : ByteArray) (w : World) (hlen : L.length ≤ len) (hl : L.length ≤ 1000000000000) (ha : SA w a L) :
    Calls Tryd.prog 52 #[.slice a len cap, .int .i64 (L.length : Int), .string x] w fun e w' => e = .returned (.bool (Lib.containsS L x)) ∧ w' = w := by
  have HS := hid0 ha
  clear ha
  go_enter Tryd.func52, Tryd.ntmps52
  go_wp2
  go_loopw [7] (fun i wr => ∃ k : Nat, k ≤ L.length ∧ i = .int .i64 (k : Int) ∧ (∀ j, j < k → L.getD j ByteArray.empty ≠ x) ∧ wr = w) (fun i _ => L.length - (intOf i).toNat)
  case atStart => exact ⟨0, Nat.zero_le _, rfl, fun j hj => absurd hj (Nat.not_lt_zero _), rfl⟩
  case round =>
    obtain ⟨k, hk, rfl, hall, rfl⟩ := hrel
    have HA := hid0 hall
    clear hall
    by_cases hlt : k < L.length
    · obtain ⟨b, off, rfl, _, hc⟩ := HS.out.at' k hlt
      have hkI : (k : Int) < (L.length : Int) := by omega
      have hkL : (k : Int) < (len : Int) := by omega
      have hkI0 : (0 : Int) ≤ (k : Int) := by omega
      have hgd : L.getD k ByteArray.empty = L[k] := by simp [List.getD, hlt]
      by_cases he : L[k] = x
      · have HV : Hid (Lib.containsS L x = true) := hid0 ((Lib.containsS_iff L x).2 (he ▸ List.getElem_mem hlt))
        rw [he] at hc
        clear HA hgd he HS
        go_wp2
        go_ret
        exact ⟨by rw [HV.out]; rfl, rfl⟩
      · have HN : Hid (∀ j, j < k + 1 → L.getD j ByteArray.empty ≠ x) := hid0 (fun j hj => by
          by_cases e : j = k
          · subst e; rw [hgd]; exact he
          · exact HA.out j (by omega))
        have hne := str_beq _ _ he
        clear HA hgd he HS
        go_wp2
        go_roundw
        case rel => exact ⟨k + 1, hlt, by go_num, HN.out, trivial⟩
        case measure => simp [intOf]; omega
    · have hkI : ¬ (k : Int) < (L.length : Int) := by omega
      have HV : Hid (Lib.containsS L x = false) := hid0 (by
        rw [Bool.eq_false_iff]
        intro h
        obtain ⟨j, hj, e⟩ := List.getElem_of_mem ((Lib.containsS_iff L x).1 h)
        exact HA.out j (by omega) (by rw [List.getD_eq_getElem?_getD, List.getElem?_eq_getElem hj]; exact e))
      clear HA HS
      go_wp2
      go_ret
      exact ⟨by rw [HV.out]; rfl, rfl⟩
/-- The document's number of a refusal. -/
def numO : Option Nat → Int
  | none => 0
  | some i => if i = 6 then 6 else (i : Int) + 1
set_option maxRecDepth 10000 in
set_option maxHeartbeats 800000 in
theorem refNames_any (L : List ByteArray) (a : Option Addr) (cap : Nat) (w : World) (hcap : L.length ≤ 1000000000) (hsz : ∀ s ∈ L, s.size ≤ 1000000000000) (ha : SA w a L) :
    Calls Tryd.prog 45 #[.slice a L.length cap] w fun e w' => e = .returned (.int .i64 (numO (if 62 < L.length then some 2 else nmF [] L))) ∧ w' = w := by
  have HS := hid0 ha
  have HZ := hid0 hsz
  clear ha hsz
  by_cases h62 : 62 < L.length
  · have hI : (62 : Int) < (L.length : Int) := by omega
    rw [if_pos h62]
    go_enter Tryd.func45, Tryd.ntmps45
    go_wp2
    go_ret
    exact ⟨rfl, rfl⟩
  have hI : ¬ (62 : Int) < (L.length : Int) := by omega
  rw [if_neg h62]
  go_enter Tryd.func45, Tryd.ntmps45
  go_wp2
  go_loopw [3] (fun i wr => ∃ k : Nat, k ≤ L.length ∧ i = .int .i64 (k : Int) ∧ Hid (nmF [] L = nmF (L.take k) (L.drop k)) ∧ wr = w) (fun i _ => L.length - (intOf i).toNat)
  case atStart => exact ⟨0, Nat.zero_le _, rfl, hid0 (by simp), rfl⟩
  case round =>
    obtain ⟨k, hk, rfl, HN, rfl⟩ := hrel
    by_cases hlt : k < L.length
    · obtain ⟨b, off, rfl, _, hc⟩ := HS.out.at' k hlt
      have hkI : (k : Int) < (L.length : Int) := by omega
      have hkI0 : (0 : Int) ≤ (k : Int) := by omega
      have HF := hid0 (HN.out.trans (nmF_at L k hlt))
      have HIN := hid0 (refIsName_any L[k] (HZ.out _ (List.getElem_mem hlt)))
      have htk : (L.take k).length = k := by rw [List.length_take]; omega
      have hCN := refHas_any (L.take k) (some ⟨b, off, none⟩) L.length cap L[k] wr (by rw [htk]; omega) (by rw [htk]; omega) (HS.out.take k)
      rw [htk] at hCN
      have HCN := hid0 hCN
      clear hCN htk HN
      generalize L[k] = s at *
      by_cases n1 : isNm s.data.toList = false
      · have HV : Hid (nmF [] L = some 1) := hid0 (by rw [HF.out, if_pos n1])
        rw [n1] at HIN
        clear n1 HF
        go_wp2_with (go_at_call 51; refine (HIN.out _).mono ?_; rintro e w1 ⟨rfl, rfl⟩)
        go_ret
        exact ⟨by rw [HV.out]; rfl, rfl⟩
      · have n1' : isNm s.data.toList = true := by simpa using n1
        rw [n1'] at HIN
        by_cases n2 : s = otherB
        · have HV : Hid (nmF [] L = some 0) := hid0 (by rw [HF.out, if_neg n1, if_pos n2])
          clear n1 n1' HF HCN HS HZ
          subst n2
          have hoth : (otherB.toList == [79, 116, 104, 101, 114]) = true := by rw [otherB_list]; rfl
          go_wp2_with (go_at_call 51; refine (HIN.out _).mono ?_; rintro e w1 ⟨rfl, rfl⟩)
          go_ret
          exact ⟨by rw [HV.out]; rfl, rfl⟩
        · have hoth := str_beq s otherB n2
          have hoth2 : (s.toList == [79, 116, 104, 101, 114]) = false := by rw [← otherB_list]; exact hoth
          cases n3 : Lib.containsS (L.take k) s with
          | true =>
            have HV : Hid (nmF [] L = some 4) := hid0 (by rw [HF.out, if_neg n1, if_neg n2, if_pos n3])
            rw [n3] at HCN
            clear n1 n1' HF n2 n3 hoth
            go_wp2_with (first
              | (go_at_call 51; refine (HIN.out _).mono ?_; rintro e w1 ⟨rfl, rfl⟩)
              | (go_at_call 52; refine HCN.out.mono ?_; rintro e w1 ⟨rfl, rfl⟩))
            go_ret
            exact ⟨by rw [HV.out]; rfl, rfl⟩
          | false =>
            have HN2 : Hid (nmF [] L = nmF (L.take (k + 1)) (L.drop (k + 1))) := hid0 (by rw [HF.out, if_neg n1, if_neg n2, if_neg (by rw [n3]; decide)])
            rw [n3] at HCN
            clear n1 n1' HF n2 n3 hoth
            go_wp2_with (first
              | (go_at_call 51; refine (HIN.out _).mono ?_; rintro e w1 ⟨rfl, rfl⟩)
              | (go_at_call 52; refine HCN.out.mono ?_; rintro e w1 ⟨rfl, rfl⟩))
            go_roundw
            case rel => exact ⟨k + 1, by omega, by go_num, HN2, trivial⟩
            case measure => simp [intOf]; omega
    · have hkI : ¬ (k : Int) < (L.length : Int) := by omega
      have HV : Hid (nmF [] L = none) := hid0 (by rw [HN.out, List.drop_of_length_le (by omega)]; rfl)
      go_wp2
      go_ret
      exact ⟨by rw [HV.out]; rfl, rfl⟩
end Go.Proofs.YtpimameogmkpcaaDoor
