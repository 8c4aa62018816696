/-
  The walk of caesuraref6's parts.
-/
import Derived.Test.YtbdjnmbhphflbaaGreatDoorLt2W
namespace Go.Proofs.YtbdjnmbhphflbaaGreatDoor
open Go.RowKit Go.Shelf Go.Lib
theorem sep45 (c : UInt8) : ((c.toNat : Int) == 45) = (c == 45) := by
  rw [Bool.eq_iff_iff, beq_iff_eq, beq_iff_eq]
  constructor
  · intro h; exact UInt8.toNat_inj.1 (by have : (45 : UInt8).toNat = 45 := rfl; omega)
  · rintro rfl; rfl
theorem sep95 (c : UInt8) : ((c.toNat : Int) == 95) = (c == 95) := by
  rw [Bool.eq_iff_iff, beq_iff_eq, beq_iff_eq]
  constructor
  · intro h; exact UInt8.toNat_inj.1 (by have : (95 : UInt8).toNat = 95 := rfl; omega)
  · rintro rfl; rfl
def lists (D : List ByteArray) : List (List UInt8) := D.map (·.data.toList)
/-- What parts leaves. -/
def Parted (t : List UInt8) (w : World) (e : Ending) (w' : World) : Prop :=
  ((pieces t).all goodP = false ∧ e = .returned (.slice none 0 0) ∧ Below w.heap.size w w') ∨
  ((pieces t).all goodP = true ∧ ∃ v D, e = .returned v ∧ OwnS w' w.heap.size v D ∧ lists D = pieces t ∧ Below w.heap.size w w')
set_option maxRecDepth 10000 in
set_option maxHeartbeats 3200000 in
theorem refParts_any (s : ByteArray) (hs : s.size ≤ 1000000) (w : World) : Calls Tryz.prog 81 #[.string s] w fun e w' => Parted s.data.toList w e w' := by
  obtain ⟨i0, hi, hz0, hz1, hz2⟩ := info_parts infoStr
  have HTL : Hid (s.data.toList.length = s.size) := hid0 (by simp)
  go_enter Tryz.func81, Tryz.ntmps81
  go_wp2
  go_loopw [3, 4, 5] (fun v fr i wr => ∃ (k f : Nat) (D : List ByteArray), k ≤ s.size + 1 ∧ f ≤ k ∧ D.length ≤ k ∧ fr = .int .i64 (f : Int) ∧ i = .int .i64 (k : Int) ∧ Hid (OwnS wr w.heap.size v D) ∧ Hid (Below w.heap.size w wr) ∧ Hid (Cut s.data.toList k f (lists D) ∨ (k = s.size + 1 ∧ lists D = pieces s.data.toList ∧ (pieces s.data.toList).all goodP = true))) (fun _ _ i _ => s.size + 1 - (intOf i).toNat)
  case atStart => exact ⟨0, 0, [], Nat.zero_le _, Nat.zero_le _, Nat.zero_le _, rfl, rfl, hid0 (World.ownsRow_nil _ _ _ _), hid0 (Below.refl _ _), hid0 (.inl (Cut.start _))⟩
  case round =>
    obtain ⟨k, f, D, hk, hf, hD, rfl, rfl, HO, HB, HC⟩ := hrel
    have hbs := HB.out.size
    have hkI0 : (0 : Int) ≤ (k : Int) := by omega
    have hfI0 : (0 : Int) ≤ (f : Int) := by omega
    have hfk : (f : Int) ≤ (k : Int) := by omega
    by_cases hle : k ≤ s.size
    · have HCut : Hid (Cut s.data.toList k f (lists D)) := hid0 (by
        rcases HC.out with h | ⟨h, _⟩
        · exact h
        · omega)
      have hkI : (k : Int) ≤ (s.size : Int) := by omega
      have HOO : Hid (wr.ownsRow w.heap.size 9 1 u3 D.length (cellsS D)) := HO
      obtain ⟨d, hd⟩ : ∃ d : Nat, d = k - f := ⟨_, rfl⟩
      have hdw : IntKind.i64.wrap ((k : Int) - (f : Int)) = (d : Int) := by simp [IntKind.wrap, IntKind.bits, IntKind.signed]; omega
      have HD := hid0 hd
      have HX : Hid ((s.extract f k).data.toList = (s.data.toList.drop f).take (k - f)) := hid0 (extract_data s f k)
      have HLX : Hid (lists (D ++ [s.extract f k]) = lists D ++ [(s.data.toList.drop f).take (k - f)]) := hid0 (by rw [← HX.out]; simp [lists])
      clear HC hd
      by_cases hlt : k < s.size
      · have hltI : (k : Int) < (s.size : Int) := by omega
        have hlt' : k < s.data.toList.length := by rw [HTL.out]; exact hlt
        have HSK : Hid (s.data.toList[k] = s[k]) := hid0 rfl
        obtain ⟨hx0, hx1⟩ := byteI s[k]
        have H1 := hid0 (refSmall_any s[k])
        have H2 := hid0 (refGreat_any s[k])
        have H3 := hid0 (refDigit_any s[k])
        have e45 := sep45 s[k]
        have e95 := sep95 s[k]
        by_cases h45 : s[k] = 45
        · have HQ : Hid (isSep s[k] = true) := hid0 (by rw [h45]; rfl)
          have HSEP : Hid (k = s.data.toList.length ∨ ∃ hk : k < s.data.toList.length, isSep s.data.toList[k] = true) := hid0 (.inr ⟨hlt', by rw [HSK.out]; exact HQ.out⟩)
          have HPUSH : Hid (1 ≤ k - f → k - f ≤ 8 → Cut s.data.toList (k + 1) (k + 1) (lists D ++ [(s.data.toList.drop f).take (k - f)]) ∨ (k + 1 = s.size + 1 ∧ lists D ++ [(s.data.toList.drop f).take (k - f)] = pieces s.data.toList ∧ (pieces s.data.toList).all goodP = true)) := hid0 (fun a b => .inl (HCut.out.push hlt' (by rw [HSK.out]; exact HQ.out) a b))
          have b45 : ((s[k].toNat : Int) == 45) = true := by rw [e45, h45]; rfl

          clear H1 H2 H3 e45 e95 HTL HSK
          by_cases hd1 : (d : Int) < 1
          · have HV : Hid ((pieces s.data.toList).all goodP = false) := hid0 (HCut.out.small HSEP.out (by have := HD.out; omega))
            clear HCut HOO HO HX HLX
            go_wp2_with (fail)
            go_ret
            exact .inl ⟨HV.out, rfl, HB.out⟩
          · by_cases hd8 : (8 : Int) < (d : Int)
            · have HV : Hid ((pieces s.data.toList).all goodP = false) := hid0 (HCut.out.small HSEP.out (by have := HD.out; omega))
              clear HCut HOO HO HX HLX
              go_wp2_with (fail)
              go_ret
              exact .inl ⟨HV.out, rfl, HB.out⟩
            · have hk1 : IntKind.i64.wrap ((k : Int) + 1) = ((k + 1 : Nat) : Int) := by simp [IntKind.wrap, IntKind.bits, IntKind.signed]; omega
              go_wp2_with (first | (at_builtin; refine wpList_append_own _ rfl _ _ 31 rfl w.heap.size 9 i0 (.string ⟨#[]⟩) 1 16 Tryz.underlying31 hi hz0 hz1 hz2 rfl (by decide) _ _ _ rfl (HOO.out.alloc _) ⟨_, 0, none⟩ 1 1 [.string (s.extract f k)] rfl rfl (cell_one_new _ _ _) ?c2b ?c3b ?c4b ?c5b ?_) | fail)
              case c2b => simp [Value.oneCell']
              case c3b => unfold maxLen; omega
              case c4b => omega
              case c5b => first | omega | (simp; omega)
              intro v2 w4 hown' hgrow _
              obtain ⟨g1, g2⟩ := owns_snoc (base := w.heap.size) (L := D) (c := s.extract f k) (n := D.length) rfl HO.out hown' hgrow HB.out (Nat.le_refl _)
              have HO4 := hid0 g1
              have HB4 := hid0 g2
              have HC4 : Hid (Cut s.data.toList (k + 1) (k + 1) (lists (D ++ [s.extract f k])) ∨ (k + 1 = s.size + 1 ∧ lists (D ++ [s.extract f k]) = pieces s.data.toList ∧ (pieces s.data.toList).all goodP = true)) := hid0 (by rw [HLX.out]; exact (HPUSH.out (by have := HD.out; omega) (by have := HD.out; omega)))
              have hDl : (D ++ [s.extract f k]).length ≤ k + 1 := by simp; omega
              clear hown' hgrow g1 g2 HOO HO HB HCut HX HLX
              go_wp2
              go_roundw
              case rel => exact ⟨k + 1, k + 1, _, by omega, by omega, hDl, by first | rfl | (rw [hk1]) | go_num, by go_num, HO4, HB4, HC4⟩
              case measure => simp [intOf]; omega

        by_cases h95 : s[k] = 95
        · have HQ : Hid (isSep s[k] = true) := hid0 (by rw [h95]; rfl)
          have HSEP : Hid (k = s.data.toList.length ∨ ∃ hk : k < s.data.toList.length, isSep s.data.toList[k] = true) := hid0 (.inr ⟨hlt', by rw [HSK.out]; exact HQ.out⟩)
          have HPUSH : Hid (1 ≤ k - f → k - f ≤ 8 → Cut s.data.toList (k + 1) (k + 1) (lists D ++ [(s.data.toList.drop f).take (k - f)]) ∨ (k + 1 = s.size + 1 ∧ lists D ++ [(s.data.toList.drop f).take (k - f)] = pieces s.data.toList ∧ (pieces s.data.toList).all goodP = true)) := hid0 (fun a b => .inl (HCut.out.push hlt' (by rw [HSK.out]; exact HQ.out) a b))
          have b95 : ((s[k].toNat : Int) == 95) = true := by rw [e95, h95]; rfl
          have b45 : ((s[k].toNat : Int) == 45) = false := by rw [e45]; simpa using h45
          have n45 : ¬ (s[k].toNat : Int) = 45 := by simpa using b45
          clear H1 H2 H3 e45 e95 HTL HSK
          by_cases hd1 : (d : Int) < 1
          · have HV : Hid ((pieces s.data.toList).all goodP = false) := hid0 (HCut.out.small HSEP.out (by have := HD.out; omega))
            clear HCut HOO HO HX HLX
            go_wp2_with (fail)
            go_ret
            exact .inl ⟨HV.out, rfl, HB.out⟩
          · by_cases hd8 : (8 : Int) < (d : Int)
            · have HV : Hid ((pieces s.data.toList).all goodP = false) := hid0 (HCut.out.small HSEP.out (by have := HD.out; omega))
              clear HCut HOO HO HX HLX
              go_wp2_with (fail)
              go_ret
              exact .inl ⟨HV.out, rfl, HB.out⟩
            · have hk1 : IntKind.i64.wrap ((k : Int) + 1) = ((k + 1 : Nat) : Int) := by simp [IntKind.wrap, IntKind.bits, IntKind.signed]; omega
              go_wp2_with (first | (at_builtin; refine wpList_append_own _ rfl _ _ 31 rfl w.heap.size 9 i0 (.string ⟨#[]⟩) 1 16 Tryz.underlying31 hi hz0 hz1 hz2 rfl (by decide) _ _ _ rfl (HOO.out.alloc _) ⟨_, 0, none⟩ 1 1 [.string (s.extract f k)] rfl rfl (cell_one_new _ _ _) ?c2b ?c3b ?c4b ?c5b ?_) | fail)
              case c2b => simp [Value.oneCell']
              case c3b => unfold maxLen; omega
              case c4b => omega
              case c5b => first | omega | (simp; omega)
              intro v2 w4 hown' hgrow _
              obtain ⟨g1, g2⟩ := owns_snoc (base := w.heap.size) (L := D) (c := s.extract f k) (n := D.length) rfl HO.out hown' hgrow HB.out (Nat.le_refl _)
              have HO4 := hid0 g1
              have HB4 := hid0 g2
              have HC4 : Hid (Cut s.data.toList (k + 1) (k + 1) (lists (D ++ [s.extract f k])) ∨ (k + 1 = s.size + 1 ∧ lists (D ++ [s.extract f k]) = pieces s.data.toList ∧ (pieces s.data.toList).all goodP = true)) := hid0 (by rw [HLX.out]; exact (HPUSH.out (by have := HD.out; omega) (by have := HD.out; omega)))
              have hDl : (D ++ [s.extract f k]).length ≤ k + 1 := by simp; omega
              clear hown' hgrow g1 g2 HOO HO HB HCut HX HLX
              go_wp2
              go_roundw
              case rel => exact ⟨k + 1, k + 1, _, by omega, by omega, hDl, by first | rfl | (rw [hk1]) | go_num, by go_num, HO4, HB4, HC4⟩
              case measure => simp [intOf]; omega

        have HQ : Hid (isSep s[k] = false) := hid0 (by simp [isSep, h45, h95])
        have b45 : ((s[k].toNat : Int) == 45) = false := by rw [e45]; simpa using h45
        have b95 : ((s[k].toNat : Int) == 95) = false := by rw [e95]; simpa using h95
        have n45 : ¬ (s[k].toNat : Int) = 45 := by simpa using b45
        have n95 : ¬ (s[k].toNat : Int) = 95 := by simpa using b95
        have m45 : ((s[k].toNat : Int) != 45) = true := by simpa using b45
        have m95 : ((s[k].toNat : Int) != 95) = true := by simpa using b95
        clear e45 e95 h45 h95
        have HSTEP : Hid (isN s[k] = true → Cut s.data.toList (k + 1) f (lists D) ∨ (k + 1 = s.size + 1 ∧ lists D = pieces s.data.toList ∧ (pieces s.data.toList).all goodP = true)) := hid0 (fun h => .inl (HCut.out.step hlt' (by rw [HSK.out]; exact h)))
        cases hq1 : isLo s[k] with
        | true =>
          rw [hq1] at H1
          have HC2 := hid0 (HSTEP.out (by simp [isN, isL, hq1]))
          clear HSTEP hq1 HCut HOO HX HLX
          go_wp2_with (first | (go_at_call 117; refine (H1.out _).mono ?_; rintro e w1 ⟨rfl, rfl⟩) | fail)
          go_roundw
          case rel => exact ⟨k + 1, f, D, by omega, by omega, by omega, rfl, by go_num, HO, HB, HC2⟩
          case measure => simp [intOf]; omega
        | false =>
          rw [hq1] at H1
          cases hq2 : isUp s[k] with
          | true =>
            rw [hq2] at H2
            have HC2 := hid0 (HSTEP.out (by simp [isN, isL, hq2]))
            clear HSTEP hq1 hq2 HCut HOO HX HLX
            go_wp2_with (first
              | (go_at_call 117; refine (H1.out _).mono ?_; rintro e w1 ⟨rfl, rfl⟩)
              | (go_at_call 118; refine (H2.out _).mono ?_; rintro e w1 ⟨rfl, rfl⟩))
            go_roundw
            case rel => exact ⟨k + 1, f, D, by omega, by omega, by omega, rfl, by go_num, HO, HB, HC2⟩
            case measure => simp [intOf]; omega
          | false =>
            rw [hq2] at H2
            cases hq3 : isDi s[k] with
            | true =>
              rw [hq3] at H3
              have HC2 := hid0 (HSTEP.out (by simp [isN, hq3]))
              clear HSTEP hq1 hq2 hq3 HCut HOO HX HLX
              go_wp2_with (first
                | (go_at_call 117; refine (H1.out _).mono ?_; rintro e w1 ⟨rfl, rfl⟩)
                | (go_at_call 118; refine (H2.out _).mono ?_; rintro e w1 ⟨rfl, rfl⟩)
                | (go_at_call 119; refine (H3.out _).mono ?_; rintro e w1 ⟨rfl, rfl⟩))
              go_roundw
              case rel => exact ⟨k + 1, f, D, by omega, by omega, by omega, rfl, by go_num, HO, HB, HC2⟩
              case measure => simp [intOf]; omega
            | false =>
              rw [hq3] at H3
              have HV : Hid ((pieces s.data.toList).all goodP = false) := hid0 (not_fine hlt' (by rw [HSK.out]; exact HQ.out) (by rw [HSK.out]; simp [isN, isL, hq1, hq2, hq3]))
              clear HSTEP hq1 hq2 hq3 HCut HOO HX HLX
              go_wp2_with (first
                | (go_at_call 117; refine (H1.out _).mono ?_; rintro e w1 ⟨rfl, rfl⟩)
                | (go_at_call 118; refine (H2.out _).mono ?_; rintro e w1 ⟨rfl, rfl⟩)
                | (go_at_call 119; refine (H3.out _).mono ?_; rintro e w1 ⟨rfl, rfl⟩))
              go_ret
              exact .inl ⟨HV.out, rfl, HB.out⟩
      · have hltI : ¬ (k : Int) < (s.size : Int) := by omega
        have HKL : Hid (k = s.data.toList.length) := hid0 (by rw [HTL.out]; omega)
        have HSEP : Hid (k = s.data.toList.length ∨ ∃ hk : k < s.data.toList.length, isSep s.data.toList[k] = true) := hid0 (.inl HKL.out)
        have HPUSH : Hid (1 ≤ k - f → k - f ≤ 8 → Cut s.data.toList (k + 1) (k + 1) (lists D ++ [(s.data.toList.drop f).take (k - f)]) ∨ (k + 1 = s.size + 1 ∧ lists D ++ [(s.data.toList.drop f).take (k - f)] = pieces s.data.toList ∧ (pieces s.data.toList).all goodP = true)) := hid0 (fun a b => .inr (by
          have h1 := HCut.out
          have h2 := HKL.out
          refine ⟨by omega, ?_⟩
          subst h2
          exact h1.done a b))
        by_cases hd1 : (d : Int) < 1
        · have HV : Hid ((pieces s.data.toList).all goodP = false) := hid0 (HCut.out.small HSEP.out (by have := HD.out; omega))
          clear HCut HOO HO HX HLX
          go_wp2_with (fail)
          go_ret
          exact .inl ⟨HV.out, rfl, HB.out⟩
        · by_cases hd8 : (8 : Int) < (d : Int)
          · have HV : Hid ((pieces s.data.toList).all goodP = false) := hid0 (HCut.out.small HSEP.out (by have := HD.out; omega))
            clear HCut HOO HO HX HLX
            go_wp2_with (fail)
            go_ret
            exact .inl ⟨HV.out, rfl, HB.out⟩
          · have hk1 : IntKind.i64.wrap ((k : Int) + 1) = ((k + 1 : Nat) : Int) := by simp [IntKind.wrap, IntKind.bits, IntKind.signed]; omega
            go_wp2_with (first | (at_builtin; refine wpList_append_own _ rfl _ _ 31 rfl w.heap.size 9 i0 (.string ⟨#[]⟩) 1 16 Tryz.underlying31 hi hz0 hz1 hz2 rfl (by decide) _ _ _ rfl (HOO.out.alloc _) ⟨_, 0, none⟩ 1 1 [.string (s.extract f k)] rfl rfl (cell_one_new _ _ _) ?c2b ?c3b ?c4b ?c5b ?_) | fail)
            case c2b => simp [Value.oneCell']
            case c3b => unfold maxLen; omega
            case c4b => omega
            case c5b => first | omega | (simp; omega)
            intro v2 w4 hown' hgrow _
            obtain ⟨g1, g2⟩ := owns_snoc (base := w.heap.size) (L := D) (c := s.extract f k) (n := D.length) rfl HO.out hown' hgrow HB.out (Nat.le_refl _)
            have HO4 := hid0 g1
            have HB4 := hid0 g2
            have HC4 : Hid (Cut s.data.toList (k + 1) (k + 1) (lists (D ++ [s.extract f k])) ∨ (k + 1 = s.size + 1 ∧ lists (D ++ [s.extract f k]) = pieces s.data.toList ∧ (pieces s.data.toList).all goodP = true)) := hid0 (by rw [HLX.out]; exact (HPUSH.out (by have := HD.out; omega) (by have := HD.out; omega)))
            have hDl : (D ++ [s.extract f k]).length ≤ k + 1 := by simp; omega
            clear hown' hgrow g1 g2 HOO HO HB HCut HX HLX
            go_wp2
            go_roundw
            case rel => exact ⟨k + 1, k + 1, _, by omega, by omega, hDl, by first | rfl | (rw [hk1]) | go_num, by go_num, HO4, HB4, HC4⟩
            case measure => simp [intOf]; omega

    · have hkI : ¬ (k : Int) ≤ (s.size : Int) := by omega
      have HV : Hid (lists D = pieces s.data.toList ∧ (pieces s.data.toList).all goodP = true) := hid0 (by
        rcases HC.out with h | ⟨_, h⟩
        · have h1 := h.top
          have h2 := HTL.out
          omega
        · exact h)
      clear HC
      go_wp2
      go_ret
      exact .inr ⟨HV.out.2, _, D, rfl, HO.out, HV.out.1, HB.out⟩
end Go.Proofs.YtbdjnmbhphflbaaGreatDoor
