/-
  The walk of caesuraref4.Lines.
-/
import Derived.Test.YtcbepmjojppokaaGreatDoorTgBW
import Derived.Maps.AppendAt
namespace Go.Proofs.YtcbepmjojppokaaGreatDoor
open Go.RowKit Go.Shelf
/-- A slice of strings of the call's own. -/
theorem extract_drop4 (s : ByteArray) (k : Nat) : (s.extract k s.size).data.toList = s.data.toList.drop k := by
  have e : s.size = s.data.toList.length := by simp
  rw [ByteArray.data_extract, Array.toList_extract, List.extract_eq_take_drop]
  exact List.take_of_length_le (by rw [List.length_drop]; omega)
def cellsS (L : List ByteArray) : List Value := L.map .string
def OwnS (w : World) (base : Nat) (v : Value) (L : List ByteArray) : Prop := w.ownsRow base 9 1 v L.length (cellsS L)
theorem infoStr : (Tryz.prog.info? 9).map (fun i => (i.zero, i.size, i.bytes)) = some (some (.string ⟨#[]⟩), 1, 16) := by kernel_rfl
theorem owns_snoc {w wr w1 : World} {base : Nat} {v v' : Value} {L : List ByteArray} {c : ByteArray} {o : Obj} {n : Nat} (hn : n = L.length) (hown : OwnS wr base v L)
    (hown' : w1.ownsRow base 9 1 v' (n + 1) (cellsS L ++ [.string c])) (hgrow : (wr.alloc o).grownBy w1 v.ownBlock) (hbel : Below base w wr) (hb : base ≤ w.heap.size) :
    OwnS w1 base v' (L ++ [c]) ∧ Below base w w1 := by
  subst hn
  have hsz := hbel.size
  refine ⟨?_, (hbel.alloc (by omega) o).grown hgrow (by simp; omega) (fun k hk => (World.ownsRow.lt hown k hk).1)⟩
  unfold OwnS
  rw [List.length_append, List.length_singleton, cellsS, List.map_append]
  exact hown'
theorem slice_of {w : World} {base : Nat} {v : Value} {L : List ByteArray} (h : OwnS w base v L) : ∃ a n c, v = .slice a n c := by
  rcases h.2 with ⟨rfl, hn⟩ | ⟨g, cap, cur, rfl, _⟩
  · exact ⟨_, _, _, rfl⟩
  · exact ⟨_, _, _, rfl⟩
def curOf (l : By) (fr k : Nat) : By := (l.take k).drop fr
theorem cur_snoc (l : By) (fr k : Nat) (c : UInt8) (h : fr ≤ k) (hc : l[k]? = some c) : curOf l fr (k + 1) = curOf l fr k ++ [c] := by
  unfold curOf
  have hk := (List.getElem?_eq_some_iff.1 hc).1
  rw [List.take_add_one, hc, List.drop_append_of_le_length (by rw [List.length_take]; omega)]
  rfl
theorem drop_at (l : By) (k : Nat) (c : UInt8) (hc : l[k]? = some c) : l.drop k = c :: l.drop (k + 1) := by
  obtain ⟨h, rfl⟩ := List.getElem?_eq_some_iff.1 hc
  exact List.drop_eq_getElem_cons h
theorem chop_13 (l : By) (fr j : Nat) (h : fr ≤ j) (hc : l[j]? = some 13) : chopR (curOf l fr (j + 1)) = curOf l fr j := by
  rw [cur_snoc l fr j 13 h hc]
  unfold chopR
  rw [if_pos (by simp)]
  simp
theorem chop_no (l : By) (fr j : Nat) (c : UInt8) (h : fr ≤ j) (hc : l[j]? = some c) (hn : ¬ c = 13) : chopR (curOf l fr (j + 1)) = curOf l fr (j + 1) := by
  rw [cur_snoc l fr j c h hc]
  unfold chopR
  rw [if_neg (by simpa using hn)]
theorem chop_nil (l : By) (k : Nat) : chopR (curOf l k k) = curOf l k k := by
  have : curOf l k k = [] := by unfold curOf; exact List.drop_of_length_le (by rw [List.length_take]; omega)
  rw [this]; rfl
theorem cur_nil (l : By) (k : Nat) : curOf l k k = [] := by unfold curOf; exact List.drop_of_length_le (by rw [List.length_take]; omega)
theorem n13 (c : UInt8) (n : Nat) (hn : n < 256) (h : ¬ c = UInt8.ofNat n) : ((c.toNat : Int) == (n : Int)) = false := by
  have h1 := u8_eq c n hn
  rw [show (c == UInt8.ofNat n) = false by simpa using h] at h1
  exact h1.symm
set_option maxRecDepth 10000 in
set_option maxHeartbeats 800000 in
theorem refLines_any (s : ByteArray) (hs : s.size ≤ 4194400) (w : World) (base : Nat) (hb : base ≤ w.heap.size) :
    Calls Tryz.prog 17 #[.string s] w fun e w' => ∃ v L, e = .returned v ∧ OwnS w' base v L ∧ L.map (fun t => t.data.toList) = linesOf s.data.toList ∧ L.length ≤ 4194401 ∧ Below base w w' := by
  obtain ⟨i0, hi, hz0, hz1, hz2⟩ := info_parts infoStr
  go_enter Tryz.func17, Tryz.ntmps17
  go_wp2
  go_loopw [3, 4, 5] (fun v f i wr => ∃ (k fr : Nat) (L : List ByteArray), fr ≤ k ∧ k ≤ s.size ∧ L.length ≤ k ∧ i = .int .i64 (k : Int) ∧ f = .int .i64 (fr : Int) ∧ Hid (OwnS wr base v L) ∧ Hid (L.map (fun t => t.data.toList) ++ linesGo (curOf s.data.toList fr k) (s.data.toList.drop k) = linesOf s.data.toList) ∧ Hid (Below base w wr) ∧ (∃ a n c, v = .slice a n c)) (fun _ _ i _ => s.size - (intOf i).toNat)
  case atStart => exact ⟨0, 0, [], Nat.le_refl _, Nat.zero_le _, Nat.le_refl _, rfl, rfl, World.ownsRow_nil _ _ _ _, rfl, Below.refl _ _, ⟨_, _, _, rfl⟩⟩
  case round =>
    obtain ⟨k, fr, L, hfk, hk, hL, rfl, rfl, HO, HE, HB, ⟨a, n, c, rfl⟩⟩ := hrel
    have hsz := HB.out.size
    have hfI : (fr : Int) ≤ (k : Int) := by omega
    have hfI0 : (0 : Int) ≤ (fr : Int) := by omega
    by_cases hlt : k < s.size
    · have hkI : (k : Int) < (s.size : Int) := by omega
      have hc := bget s k hlt
      by_cases h10 : s[k] = 10
      · have h10I : (s[k].toNat : Int) = 10 := by rw [h10]; rfl
        rw [h10] at hc
        have HE2 : Hid (L.map (fun t => t.data.toList) ++ chopR (curOf s.data.toList fr k) :: linesGo [] (s.data.toList.drop (k + 1)) = linesOf s.data.toList) := hid0 (by
          rw [← HE.out, drop_at _ k 10 hc, linesGo, if_pos rfl])
        clear HE h10
        by_cases hfk0 : fr = k
        · subst hfk0
          have HN : Hid ((L ++ [ByteArray.empty]).map (fun t => t.data.toList) ++ linesGo (curOf s.data.toList (fr + 1) (fr + 1)) (s.data.toList.drop (fr + 1)) = linesOf s.data.toList) := hid0 (by
            rw [← HE2.out, chop_nil, cur_nil, cur_nil, List.map_append, List.append_assoc]
            rfl)
          have hd : ¬ (fr : Int) < (fr : Int) := by omega
          clear HE2 hc hfk
          go_wp2_with (at_builtin; refine wpList_append_own _ rfl _ _ 45 rfl base 9 i0 (.string ⟨#[]⟩) 1 16 Tryz.underlying45 hi hz0 hz1 hz2 rfl (by decide) _ _ _ rfl (HO.out.alloc _) ⟨wr.heap.size, 0, none⟩ 1 1 [.string (ByteArray.empty)] rfl rfl (cell_one_new _ _ _) ?c2a ?c3a ?c4a ?c5a ?_)
          case c2a => first | rfl | (intro u hu; simp at hu; subst hu; rfl)
          case c3a => unfold maxLen; omega
          case c4a => omega
          case c5a => first | omega | (simp; omega)
          · intro v' w1 hown' hgrow _
            have R := owns_snoc rfl HO.out hown' hgrow HB.out hb
            have HR := hid0 R
            clear hown' hgrow HO HB R
            go_wp2
            go_roundw
            case rel => exact ⟨fr + 1, fr + 1, _, Nat.le_refl _, by omega, by simp; omega, by go_num, by go_num, HR.out.1, HN, HR.out.2, slice_of HR.out.1⟩
            case measure => simp [intOf]; omega
        · obtain ⟨j, rfl⟩ : ∃ j, k = j + 1 := ⟨k - 1, by omega⟩
          have hjs : j < s.size := by omega
          have ej : ((j + 1 : Nat) : Int) = (j : Int) + 1 := by omega
          have hj2 := bget s j hjs
          have hjI : (fr : Int) < (j : Int) + 1 := by omega
          have hjI0 : (0 : Int) ≤ (j : Int) := by omega
          have hjS : (j : Int) < (s.size : Int) := by omega
          by_cases h13 : s[j] = 13
          · have h13I : (s[j].toNat : Int) = 13 := by rw [h13]; rfl
            rw [h13] at hj2
            have HN : Hid ((L ++ [s.extract fr j]).map (fun t => t.data.toList) ++ linesGo (curOf s.data.toList (j + 1 + 1) (j + 1 + 1)) (s.data.toList.drop (j + 1 + 1)) = linesOf s.data.toList) := hid0 (by
              rw [← HE2.out, chop_13 _ _ _ (by omega) hj2, cur_nil, List.map_append, List.append_assoc]
              simp only [List.map_cons, List.map_nil, ext_mid, List.cons_append, List.nil_append]
              rfl)
            have hfj : (fr : Int) ≤ (j : Int) := by omega
            clear HE2 hc hj2 h13
            go_wp2_with (at_builtin; refine wpList_append_own _ rfl _ _ 45 rfl base 9 i0 (.string ⟨#[]⟩) 1 16 Tryz.underlying45 hi hz0 hz1 hz2 rfl (by decide) _ _ _ rfl (HO.out.alloc _) ⟨wr.heap.size, 0, none⟩ 1 1 [.string (s.extract fr j)] rfl rfl (cell_one_new _ _ _) ?c2b ?c3b ?c4b ?c5b ?_)
            case c2b => first | rfl | (intro u hu; simp at hu; subst hu; rfl)
            case c3b => unfold maxLen; omega
            case c4b => omega
            case c5b => first | omega | (simp; omega)
            · intro v' w1 hown' hgrow _
              have R := owns_snoc rfl HO.out hown' hgrow HB.out hb
              have HR := hid0 R
              clear hown' hgrow HO HB R
              go_wp2
              go_roundw
              case rel => exact ⟨(j + 1) + 1, (j + 1) + 1, _, Nat.le_refl _, by omega, by simp; omega, by go_num, by go_num, HR.out.1, HN, HR.out.2, slice_of HR.out.1⟩
              case measure => simp [intOf]; omega
          · have hn13 := n13 s[j] 13 (by omega) h13
            have HN : Hid ((L ++ [s.extract fr (j + 1)]).map (fun t => t.data.toList) ++ linesGo (curOf s.data.toList (j + 1 + 1) (j + 1 + 1)) (s.data.toList.drop (j + 1 + 1)) = linesOf s.data.toList) := hid0 (by
              rw [← HE2.out, chop_no _ _ _ _ (by omega) hj2 h13, cur_nil, List.map_append, List.append_assoc]
              simp only [List.map_cons, List.map_nil, ext_mid, List.cons_append, List.nil_append]
              rfl)
            have hfj : (fr : Int) ≤ (j : Int) + 1 := by omega
            have hjS1 : (j : Int) + 1 ≤ (s.size : Int) := by omega
            clear HE2 hc hj2 h13
            go_wp2_with (at_builtin; refine wpList_append_own _ rfl _ _ 45 rfl base 9 i0 (.string ⟨#[]⟩) 1 16 Tryz.underlying45 hi hz0 hz1 hz2 rfl (by decide) _ _ _ rfl (HO.out.alloc _) ⟨wr.heap.size, 0, none⟩ 1 1 [.string (s.extract fr (j + 1))] rfl rfl (cell_one_new _ _ _) ?c2c ?c3c ?c4c ?c5c ?_)
            case c2c => first | rfl | (intro u hu; simp at hu; subst hu; rfl)
            case c3c => unfold maxLen; omega
            case c4c => omega
            case c5c => first | omega | (simp; omega)
            · intro v' w1 hown' hgrow _
              have R := owns_snoc rfl HO.out hown' hgrow HB.out hb
              have HR := hid0 R
              clear hown' hgrow HO HB R
              go_wp2
              go_roundw
              case rel => exact ⟨(j + 1) + 1, (j + 1) + 1, _, Nat.le_refl _, by omega, by simp; omega, by go_num, by go_num, HR.out.1, HN, HR.out.2, slice_of HR.out.1⟩
              case measure => simp [intOf]; omega
      · have hn10 := n13 s[k] 10 (by omega) h10
        have HE2 : Hid (L.map (fun t => t.data.toList) ++ linesGo (curOf s.data.toList fr (k + 1)) (s.data.toList.drop (k + 1)) = linesOf s.data.toList) := hid0 (by
          rw [← HE.out, drop_at _ k _ hc, linesGo, if_neg h10, cur_snoc _ _ _ _ hfk hc])
        clear HE h10 hc
        go_wp2
        go_roundw
        case rel => exact ⟨k + 1, fr, L, by omega, by omega, by omega, by go_num, rfl, HO, HE2, HB, ⟨_, _, _, rfl⟩⟩
        case measure => simp [intOf]; omega
    · have hkI : ¬ (k : Int) < (s.size : Int) := by omega
      have hfS : (fr : Int) ≤ (s.size : Int) := by omega
      have HN : Hid ((L ++ [s.extract fr s.size]).map (fun t => t.data.toList) = linesOf s.data.toList) := hid0 (by
        rw [← HE.out, List.drop_of_length_le (by rw [bsize0]; omega), linesGo, List.map_append]
        congr 1
        simp only [List.map_cons, List.map_nil, extract_drop4, curOf]
        rw [List.take_of_length_le (by rw [bsize0]; omega)])
      clear HE
      go_wp2_with (at_builtin; refine wpList_append_own _ rfl _ _ 45 rfl base 9 i0 (.string ⟨#[]⟩) 1 16 Tryz.underlying45 hi hz0 hz1 hz2 rfl (by decide) _ _ _ rfl (HO.out.alloc _) ⟨wr.heap.size, 0, none⟩ 1 1 [.string (s.extract fr s.size)] rfl rfl (cell_one_new _ _ _) ?c2z ?c3z ?c4z ?c5z ?_)
      case c2z => first | rfl | (intro u hu; simp at hu; subst hu; rfl)
      case c3z => unfold maxLen; omega
      case c4z => omega
      case c5z => first | omega | (simp; omega)
      · intro v' w1 hown' hgrow _
        have R := owns_snoc rfl HO.out hown' hgrow HB.out hb
        have HR := hid0 R
        clear hown' hgrow HO HB R
        go_wp2
        go_ret
        exact ⟨_, _, rfl, HR.out.1, HN.out, by simp; omega, HR.out.2⟩
end Go.Proofs.YtcbepmjojppokaaGreatDoor
