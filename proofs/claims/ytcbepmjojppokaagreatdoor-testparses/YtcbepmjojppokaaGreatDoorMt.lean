/-
  TgRW, TgSM, TgTW, TgUW, ThAM, ThAW, ThFM, ThDW, ThHM, ThIW, ThJW, ThKM, ThKW, ThLM, ThMW, ThNW, TrOP, TprP.
-/
import Derived.Test.YtcbepmjojppokaaGreatDoorTgLW
import Derived.Test.YtcbepmjojppokaaGreatDoorTgQW
import Derived.Test.YtcbepmjojppokaaGreatDoorTgYW
import Derived.Test.YtcbepmjojppokaaGreatDoorTgCW
import Derived.Deep.DeepAppendRoom
import Derived.Test.YtcbepmjojppokaaGreatDoorThCM
import Derived.Test.YtcbepmjojppokaaGreatDoorTpOW
import Derived.Test.YtcbepmjojppokaaGreatDoorTgZW
import Derived.Test.YtcbepmjojppokaaGreatDoorTgYM
import Derived.Maps.AppendAt
import Derived.Deep.RegionLaw
import Derived.Laws.AppendOwnNone
import Derived.LaidHandle
import Derived.Test.YtcbepmjojppokaaGreatDoorSentP
import Derived.Deep.Matrix
import Derived.Lib.LaidU8
import Derived.Shelf.Vars
import Derived.Lay
import Derived.LaidMore
import Derived.ChangeSlices
import Derived.Deep.Slices
namespace Go.Proofs.YtcbepmjojppokaaGreatDoor
open Go.RowKit Go.Shelf
/-- The words, with what was read of the first one. -/
def pcs (now : By) : By → List By
  | [] => if now = [] then [] else [now]
  | c :: r => if isBl c = true then (if now = [] then pcs [] r else now :: pcs [] r) else pcs (now ++ [c]) r
/-- The words, one behind the other. -/
theorem pcs_go (now : By) (l : By) : pcs now l = if now ++ nextW l = [] then pcs [] (l.drop (nextW l).length) else (now ++ nextW l) :: pcs [] (restW l) := by
  induction l generalizing now with
  | nil =>
    have e : nextW [] = [] := rfl
    rw [e, List.append_nil, pcs]
    by_cases h : now = []
    · rw [if_pos h, if_pos h]; rfl
    · rw [if_neg h, if_neg h]; rfl
  | cons c r ih =>
    rw [pcs]
    cases hb : isBl c with
    | true =>
      have e : nextW (c :: r) = [] := by unfold nextW notBl; rw [List.takeWhile_cons, hb]; rfl
      have e2 : restW (c :: r) = r.dropWhile isBl := by unfold restW; rw [e]; show (c :: r).dropWhile isBl = _; rw [List.dropWhile_cons, if_pos hb]
      rw [if_pos rfl, e, List.append_nil, e2]
      have hd : ∀ r : By, pcs [] r = pcs [] (r.dropWhile isBl) := by
        intro r
        induction r with
        | nil => rfl
        | cons d q ihq =>
          rw [List.dropWhile_cons]
          cases hd : isBl d with
          | true => rw [if_pos rfl, pcs, if_pos hd, if_pos rfl]; exact ihq
          | false => rw [if_neg (by simp)]
      by_cases h : now = []
      · rw [if_pos h, if_pos h]
        show pcs [] r = pcs [] (c :: r)
        rw [hd r, hd (c :: r), List.dropWhile_cons, if_pos hb]
      · rw [if_neg h, if_neg h, hd r]
    | false =>
      have e : nextW (c :: r) = c :: nextW r := by unfold nextW notBl; rw [List.takeWhile_cons, hb]; rfl
      have e2 : restW (c :: r) = restW r := by unfold restW; rw [e]; rfl
      rw [if_neg (by simp), ih, e, e2]
      have e3 : now ++ [c] ++ nextW r = now ++ c :: nextW r := by simp
      rw [e3, if_neg (by simp), if_neg (by simp)]
/-- At a line that no blank begins. -/
theorem pcs_word (l : By) (h : nextW l ≠ []) : pcs [] l = nextW l :: pcs [] (restW l) := by
  rw [pcs_go, List.nil_append, if_neg h]
set_option maxRecDepth 10000 in
set_option maxHeartbeats 1600000 in
theorem refPieces_any (s : ByteArray) (hs : s.size ≤ 4194400) (w : World) (base : Nat) (hb : base ≤ w.heap.size) :
    Calls Tryz.prog 34 #[.string s] w fun e w' => ∃ v L, e = .returned v ∧ Hid (OwnS w' base v L ∧ L.map (fun t => t.data.toList) = pcs [] s.data.toList ∧ L.length ≤ 4194401 ∧ Below base w w') := by
  obtain ⟨i0, hi, hz0, hz1, hz2⟩ := info_parts infoStr
  go_enter Tryz.func34, Tryz.ntmps34
  go_wp2
  go_loopw [3, 4, 5] (fun v f i wr => ∃ (k : Nat) (now : By) (L : List ByteArray), k ≤ s.size ∧ L.length ≤ k ∧ now.length ≤ k ∧ i = .int .i64 (k : Int) ∧ Hid (f = .string (rd now)) ∧ Hid (OwnS wr base v L) ∧ Hid (L.map (fun t => t.data.toList) ++ pcs now (s.data.toList.drop k) = pcs [] s.data.toList) ∧ Hid (Below base w wr) ∧ (∃ a n c, v = .slice a n c)) (fun _ _ i _ => s.size - (intOf i).toNat)
  case atStart => exact ⟨0, [], [], Nat.zero_le _, Nat.le_refl _, Nat.le_refl _, rfl, hid0 rfl, World.ownsRow_nil _ _ _ _, rfl, Below.refl _ _, ⟨_, _, _, rfl⟩⟩
  case round =>
    obtain ⟨k, now, L, hk, hL, hn, rfl, HF, HO, HE, HB, ⟨a, n, c, rfl⟩⟩ := hrel
    have hf := HF.out
    subst hf
    have hsz := HB.out.size
    by_cases hlt : k < s.size
    · have hkI : (k : Int) < (s.size : Int) := by omega
      have hc := bget s k hlt
      cases hbl : isBl s[k] with
      | true =>
        have hor : ((s[k].toNat : Int) == 32) = true ∨ (((s[k].toNat : Int) == 32) = false ∧ ((s[k].toNat : Int) == 9) = true) := by
          rw [isBl_int] at hbl
          by_cases h : (s[k].toNat : Int) = 32
          · exact .inl (by simpa using h)
          · refine .inr ⟨by simpa using h, ?_⟩
            rw [decide_eq_false h, Bool.false_or] at hbl
            simpa using hbl
        have HE1 : Hid (L.map (fun t => t.data.toList) ++ (if now = [] then pcs [] (s.data.toList.drop (k + 1)) else now :: pcs [] (s.data.toList.drop (k + 1))) = pcs [] s.data.toList) := hid0 (by
          rw [← HE.out, drop_at _ k _ hc, pcs, if_pos hbl])
        clear HE hbl hc
        by_cases hne : now = []
        · rw [if_pos hne] at HE1
          subst hne
          rcases hor with hq | ⟨hq, hq2⟩
          · go_wp2
            go_roundw
            case rel => exact ⟨k + 1, [], L, hlt, by omega, by simp, by go_num, hid0 rfl, HO, HE1, HB, ⟨_, _, _, rfl⟩⟩
            case measure => simp [intOf]; omega
          · go_wp2
            go_roundw
            case rel => exact ⟨k + 1, [], L, hlt, by omega, by simp, by go_num, hid0 rfl, HO, HE1, HB, ⟨_, _, _, rfl⟩⟩
            case measure => simp [intOf]; omega
        · rw [if_neg hne] at HE1
          have HN : Hid ((L ++ [rd now]).map (fun t => t.data.toList) ++ pcs [] (s.data.toList.drop (k + 1)) = pcs [] s.data.toList) := hid0 (by rw [← HE1.out, List.map_append, List.append_assoc]; rfl)
          have hq0 : ((rd now).toList == []) = false := by
            rw [ByteArray.toList_eq]
            show (now == []) = false
            simpa using hne
          clear HE1 hne
          generalize rd now = NS at *
          rcases hor with hq | ⟨hq, hq2⟩
          · go_wp2_with (at_builtin; refine wpList_append_own _ rfl _ _ 45 rfl base 9 i0 (.string ⟨#[]⟩) 1 16 Tryz.underlying45 hi hz0 hz1 hz2 rfl (by decide) _ _ _ rfl (HO.out.alloc _) ⟨wr.heap.size, 0, none⟩ 1 1 [.string NS] rfl rfl (cell_one_new _ _ _) ?c2a ?c3a ?c4a ?c5a ?_)
            case c2a => first | rfl | (intro u hu; simp at hu; subst hu; rfl)
            case c3a => unfold maxLen; omega
            case c4a => omega
            case c5a => first | omega | (simp; omega)
            · intro v' w1 hown' hgrow _
              have R := owns_snoc rfl HO.out hown' hgrow HB.out hb
              have HR := hid0 R
              clear hown' hgrow HO HB R
              go_wp2
              go_roundw
              case rel => exact ⟨k + 1, [], L ++ [NS], hlt, by simp; omega, by simp, by go_num, hid0 rfl, HR.out.1, HN, HR.out.2, slice_of HR.out.1⟩
              case measure => simp [intOf]; omega
          · go_wp2_with (at_builtin; refine wpList_append_own _ rfl _ _ 45 rfl base 9 i0 (.string ⟨#[]⟩) 1 16 Tryz.underlying45 hi hz0 hz1 hz2 rfl (by decide) _ _ _ rfl (HO.out.alloc _) ⟨wr.heap.size, 0, none⟩ 1 1 [.string NS] rfl rfl (cell_one_new _ _ _) ?c2b ?c3b ?c4b ?c5b ?_)
            case c2b => first | rfl | (intro u hu; simp at hu; subst hu; rfl)
            case c3b => unfold maxLen; omega
            case c4b => omega
            case c5b => first | omega | (simp; omega)
            · intro v' w1 hown' hgrow _
              have R := owns_snoc rfl HO.out hown' hgrow HB.out hb
              have HR := hid0 R
              clear hown' hgrow HO HB R
              go_wp2
              go_roundw
              case rel => exact ⟨k + 1, [], L ++ [NS], hlt, by simp; omega, by simp, by go_num, hid0 rfl, HR.out.1, HN, HR.out.2, slice_of HR.out.1⟩
              case measure => simp [intOf]; omega
      | false =>
        have HE2 : Hid (L.map (fun t => t.data.toList) ++ pcs (now ++ [s[k]]) (s.data.toList.drop (k + 1)) = pcs [] s.data.toList) := hid0 (by
          rw [← HE.out, drop_at _ k _ hc, pcs, if_neg (by rw [hbl]; simp)])
        have HX : Hid (rd now ++ s.extract k (k + 1) = rd (now ++ [s[k]])) := hid0 (str_eq4 (by
          rw [ByteArray.data_append, Array.toList_append, ext_mid, List.take_add_one, hc]
          simp [Nat.le_of_lt hlt]))
        have hns : (rd now).size = now.length := rd_size now
        have hx1 : (s.extract k (k + 1)).size = 1 := by rw [ByteArray.size_extract]; omega
        have h32 : ¬ (s[k].toNat : Int) = 32 := fun h => by
          have : s[k] = 32 := UInt8.toNat_inj.1 (by show s[k].toNat = 32; omega)
          rw [this] at hbl; simp [isBl] at hbl
        have h9 : ¬ (s[k].toNat : Int) = 9 := fun h => by
          have : s[k] = 9 := UInt8.toNat_inj.1 (by show s[k].toNat = 9; omega)
          rw [this] at hbl; simp [isBl] at hbl
        have hb32 : ((s[k].toNat : Int) == 32) = false := by simpa using h32
        have hb9 : ((s[k].toNat : Int) == 9) = false := by simpa using h9
        clear HE hbl hc
        generalize rd now = NS at *
        have g1 : ¬ 9223372036854775807 < NS.size + 1 := by omega
        go_wp2
        go_roundw
        case rel => exact ⟨k + 1, now ++ [s[k]], L, hlt, by omega, by simp; omega, by go_num, hid0 (by rw [← HX.out]), HO, HE2, HB, ⟨_, _, _, rfl⟩⟩
        case measure => simp [intOf]; omega
    · have hkI : ¬ (k : Int) < (s.size : Int) := by omega
      have hkE : k = s.size := by omega
      have HE1 : Hid (L.map (fun t => t.data.toList) ++ (if now = [] then [] else [now]) = pcs [] s.data.toList) := hid0 (by
        rw [← HE.out, List.drop_of_length_le (by rw [bsize0]; omega), pcs])
      clear HE hkE
      by_cases hne : now = []
      · rw [if_pos hne, List.append_nil] at HE1
        subst hne
        go_wp2
        go_ret
        exact ⟨_, rfl, L, hid0 ⟨HO.out, HE1.out, by omega, HB.out⟩⟩
      · rw [if_neg hne] at HE1
        have HN : Hid ((L ++ [rd now]).map (fun t => t.data.toList) = pcs [] s.data.toList) := hid0 (by rw [← HE1.out, List.map_append]; rfl)
        have hq0 : ((rd now).toList == []) = false := by
          rw [ByteArray.toList_eq]
          show (now == []) = false
          simpa using hne
        clear HE1 hne
        generalize rd now = NS at *
        go_wp2_with (at_builtin; refine wpList_append_own _ rfl _ _ 45 rfl base 9 i0 (.string ⟨#[]⟩) 1 16 Tryz.underlying45 hi hz0 hz1 hz2 rfl (by decide) _ _ _ rfl (HO.out.alloc _) ⟨wr.heap.size, 0, none⟩ 1 1 [.string NS] rfl rfl (cell_one_new _ _ _) ?c2z ?c3z ?c4z ?c5z ?_)
        case c2z => first | rfl | (intro u hu; simp at hu; subst hu; rfl)
        case c3z => unfold maxLen; omega
        case c4z => omega
        case c5z => first | omega | (simp; omega)
        · intro v' w1 hown' hgrow _
          have R := owns_snoc rfl HO.out hown' hgrow HB.out hb
          have HR := hid0 R
          clear hown' hgrow HO HB R
          go_wp2
          go_ret
          exact ⟨_, _, rfl, hid0 ⟨HR.out.1, HN.out, by simp; omega, HR.out.2⟩⟩
end Go.Proofs.YtcbepmjojppokaaGreatDoor
namespace Go.Proofs.YtcbepmjojppokaaGreatDoor
/-- What words say, one behind the other (stage 23). -/
def wdL : Bool → List By → List Int → List Int → Option (List Int × List Int)
  | _, [], P, B => some (P, B)
  | true, w :: r, P, B => if w = yesW ∨ w = noW then wdL false r P (if w = yesW then B ++ [(P.length : Int)] else B) else none
  | false, w :: r, P, B => if wOk w = true then wdL true r (P ++ [(hexN w : Int)]) B else none
theorem all_take (w : By) (h : w.all isHx = true) : w.takeWhile isHx = w := by
  induction w with
  | nil => rfl
  | cons c r ih =>
    rw [List.all_cons, Bool.and_eq_true] at h
    rw [List.takeWhile_cons, if_pos h.1, ih h.2]
theorem take_all (w : By) (h : (w.takeWhile isHx).length = w.length) : w.all isHx = true := by
  have e : w.takeWhile isHx = w := (List.takeWhile_sublist isHx).eq_of_length h
  rw [← e]
  exact List.all_takeWhile
/-- The document's test of a point. -/
theorem wOk_pt (w : By) : wOk w = (ptOk w && decide (ptLen w = w.length)) := by
  unfold wOk ptOk ptLen
  cases h : w.all isHx with
  | true => rw [all_take w h]; simp
  | false =>
    have hn : ¬ (w.takeWhile isHx).length = w.length := fun e => by rw [take_all w e] at h; cases h
    rw [decide_eq_false hn]
    simp
theorem wOk_val (w : By) (h : wOk w = true) : ptVal w = hexN w := by
  unfold wOk at h
  simp only [Bool.and_eq_true] at h
  unfold ptVal
  rw [all_take w h.2]
theorem dropW_head (l : By) (h : l.dropWhile isBl ≠ []) : nextW (l.dropWhile isBl) ≠ [] := by
  induction l with
  | nil => exact absurd rfl h
  | cons c r ih =>
    rw [List.dropWhile_cons] at h ⊢
    cases hb : isBl c with
    | true => rw [hb, if_pos rfl] at h; rw [if_pos rfl]; exact ih h
    | false =>
      rw [if_neg (by simp)]
      unfold nextW notBl
      rw [List.takeWhile_cons, hb]
      simp
/-- The two agree. -/
theorem rdS_wd (n : Nat) : ∀ (s : By) (P B : List Int), s.length + 2 ≤ n → (s = [] ∨ nextW s ≠ []) →
    rdS n true s P B = (if (pcs [] s).length % 2 = 1 then wdL true (pcs [] s) P B else none) ∧ (s ≠ [] → rdS n false s P B = if (pcs [] s).length % 2 = 0 then wdL false (pcs [] s) P B else none) := by
  induction n with
  | zero => intro s P B h; omega
  | succ n ih =>
    intro s P B hn hs
    by_cases he : s = []
    · subst he
      refine ⟨?_, fun h => absurd rfl h⟩
      rfl
    · have hw := hs.resolve_left he
      have hp := pcs_word s hw
      have hl := rest_le s
      have hw1 : 1 ≤ (nextW s).length := by cases h : nextW s with | nil => exact absurd h hw | cons c r => simp
      have hr : restW s = [] ∨ nextW (restW s) ≠ [] := by
        by_cases h : restW s = []
        · exact .inl h
        · exact .inr (dropW_head _ h)
      rw [hp]
      constructor
      · rw [rdS, wdL, List.length_cons]
        by_cases hk : nextW s = yesW ∨ nextW s = noW
        · rw [if_pos hk, if_pos hk]
          by_cases h : restW s = []
          · rw [if_pos h, h]
            rfl
          · rw [if_neg h]
            have := (ih (restW s) P (if nextW s = yesW then B ++ [(P.length : Int)] else B) (by omega) hr).2 h
            rw [this]
            by_cases hm : (pcs [] (restW s)).length % 2 = 0
            · rw [if_pos hm, if_pos (show ((pcs [] (restW s)).length + 1) % 2 = 1 by omega)]
            · rw [if_neg hm, if_neg (show ¬ ((pcs [] (restW s)).length + 1) % 2 = 1 by omega)]
        · rw [if_neg hk, if_neg hk]
          split <;> rfl
      · intro _
        rw [rdS, wdL, List.length_cons]
        by_cases hk : wOk (nextW s) = true
        · rw [if_pos hk, if_pos hk]
          have := (ih (restW s) (P ++ [(hexN (nextW s) : Int)]) B (by omega) hr).1
          rw [this]
          by_cases hm : (pcs [] (restW s)).length % 2 = 1
          · rw [if_pos hm, if_pos (show ((pcs [] (restW s)).length + 1) % 2 = 0 by omega)]
          · rw [if_neg hm, if_neg (show ¬ ((pcs [] (restW s)).length + 1) % 2 = 0 by omega)]
        · rw [if_neg hk, if_neg hk]
          split <;> rfl
end Go.Proofs.YtcbepmjojppokaaGreatDoor
namespace Go.Proofs.YtcbepmjojppokaaGreatDoor
open Go.RowKit Go.Shelf
/-- A case of one's own that is being made. -/
structure CSt (w0 V : World) (LP LB : List Int) (vP vB : Value) : Prop where
  box : V.heap[w0.heap.size]? = some (.cells #[vP, vB] 50 (0, 0))
  rp : OwnI V w0.heap.size vP LP
  rb : OwnI V w0.heap.size vB LB
  ne : ∀ g, vP.ownBlock = some g → vB.ownBlock ≠ some g
  bel : Below w0.heap.size w0 V
theorem caseInt : (50 : TypeId) ≠ 3 := by decide
theorem CSt.grow {w0 V V1 W2 : World} {LP LB LP' : List Int} {vP vB v' : Value} (h : CSt w0 V LP LB vP vB) (hV1 : Below V.heap.size V V1) (_hown : OwnI W2 w0.heap.size v' LP') (hg : V1.grownBy W2 vP.ownBlock) (hat : v'.ownBlock = vP.ownBlock ∨ v'.ownBlock = some V1.heap.size) :
    W2.heap[w0.heap.size]? = some (.cells #[vP, vB] 50 (0, 0)) ∧ OwnI W2 w0.heap.size vB LB ∧ (∀ g, v'.ownBlock = some g → vB.ownBlock ≠ some g) ∧ Below w0.heap.size w0 W2 := by
  have hbl := (Array.getElem?_eq_some_iff.1 h.box).1
  have hs1 := hV1.size
  have hbx : W2.heap[w0.heap.size]? = some (.cells #[vP, vB] 50 (0, 0)) := (hg.block _ (by omega) (fun e => own_neC h.rp h.box caseInt e.symm)).trans ((hV1.block _ hbl).trans h.box)
  refine ⟨hbx, own_blk h.rb (fun k hk => ?_), fun g hg1 hg2 => ?_, ?_⟩
  · have hl := (World.ownsRow.lt h.rb k hk).2
    exact (hg.block k (by omega) (fun e => h.ne k e.symm hk)).trans (hV1.block k hl)
  · rcases hat with e | e
    · exact h.ne g (by rw [← e]; exact hg1) hg2
    · have hl := (World.ownsRow.lt h.rb g hg2).2
      rw [e] at hg1
      injection hg1 with hg1
      omega
  · exact (h.bel.trans (hV1.mono h.bel.size)).grown hg (Nat.le_trans h.bel.size hs1) (fun k hk => (World.ownsRow.lt h.rp k hk).1)
theorem CSt.putP {w0 W2 : World} {LP' LB : List Int} {vP vB v' : Value} (hbx : W2.heap[w0.heap.size]? = some (.cells #[vP, vB] 50 (0, 0))) (hp : OwnI W2 w0.heap.size v' LP') (hb : OwnI W2 w0.heap.size vB LB) (hne : ∀ g, v'.ownBlock = some g → vB.ownBlock ≠ some g) (hbel : Below w0.heap.size w0 W2) :
    CSt w0 (W2.setCell ⟨w0.heap.size, 0, none⟩ v') LP' LB v' vB :=
  ⟨heap_setCell_same W2 _ 0 _ _ v' hbx, own_blk hp (fun k hk => Below.heap_setCell W2 _ v' k (fun e => own_neC hp hbx caseInt (by rw [← show k = w0.heap.size from e]; exact hk))), own_blk hb (fun k hk => Below.heap_setCell W2 _ v' k (fun e => own_neC hb hbx caseInt (by rw [← show k = w0.heap.size from e]; exact hk))), hne, hbel.setCell (p := ⟨w0.heap.size, 0, none⟩) (Nat.le_refl _) _⟩
theorem CSt.putB {w0 W2 : World} {LP LB' : List Int} {vP vB v' : Value} (hbx : W2.heap[w0.heap.size]? = some (.cells #[vP, vB] 50 (0, 0))) (hp : OwnI W2 w0.heap.size vP LP) (hb : OwnI W2 w0.heap.size v' LB') (hne : ∀ g, vP.ownBlock = some g → v'.ownBlock ≠ some g) (hbel : Below w0.heap.size w0 W2) :
    CSt w0 (W2.setCell ⟨w0.heap.size, 1, none⟩ v') LP LB' vP v' :=
  ⟨heap_setCell_same W2 _ 1 _ _ v' hbx, own_blk hp (fun k hk => Below.heap_setCell W2 _ v' k (fun e => own_neC hp hbx caseInt (by rw [← show k = w0.heap.size from e]; exact hk))), own_blk hb (fun k hk => Below.heap_setCell W2 _ v' k (fun e => own_neC hb hbx caseInt (by rw [← show k = w0.heap.size from e]; exact hk))), hne, hbel.setCell (p := ⟨w0.heap.size, 1, none⟩) (Nat.le_refl _) _⟩
/-- The same with the two lists in each other's places. -/
theorem CSt.growB {w0 V V1 W2 : World} {LP LB LB' : List Int} {vP vB v' : Value} (h : CSt w0 V LP LB vP vB) (hV1 : Below V.heap.size V V1) (_hown : OwnI W2 w0.heap.size v' LB') (hg : V1.grownBy W2 vB.ownBlock) (hat : v'.ownBlock = vB.ownBlock ∨ v'.ownBlock = some V1.heap.size) :
    W2.heap[w0.heap.size]? = some (.cells #[vP, vB] 50 (0, 0)) ∧ OwnI W2 w0.heap.size vP LP ∧ (∀ g, vP.ownBlock = some g → v'.ownBlock ≠ some g) ∧ Below w0.heap.size w0 W2 := by
  have hbl := (Array.getElem?_eq_some_iff.1 h.box).1
  have hs1 := hV1.size
  have hbx : W2.heap[w0.heap.size]? = some (.cells #[vP, vB] 50 (0, 0)) := (hg.block _ (by omega) (fun e => own_neC h.rb h.box caseInt e.symm)).trans ((hV1.block _ hbl).trans h.box)
  refine ⟨hbx, own_blk h.rp (fun k hk => ?_), fun g hg1 hg2 => ?_, ?_⟩
  · have hl := (World.ownsRow.lt h.rp k hk).2
    exact (hg.block k (by omega) (fun e => h.ne k hk e.symm)).trans (hV1.block k hl)
  · rcases hat with e | e
    · exact h.ne g hg1 (by rw [← e]; exact hg2)
    · have hl := (World.ownsRow.lt h.rp g hg1).2
      rw [e] at hg2
      injection hg2 with hg2
      omega
  · exact (h.bel.trans (hV1.mono h.bel.size)).grown hg (Nat.le_trans h.bel.size hs1) (fun k hk => (World.ownsRow.lt h.rb k hk).1)
theorem CSt.boxc {w0 V : World} {LP LB : List Int} {vP vB : Value} (h : CSt w0 V LP LB vP vB) : V.cell? ⟨w0.heap.size, 0, none⟩ = some vP ∧ V.cell? ⟨w0.heap.size, 1, none⟩ = some vB ∧ V.frozen? ⟨w0.heap.size, 0, none⟩ = false ∧ V.frozen? ⟨w0.heap.size, 1, none⟩ = false := ⟨by rw [cell_of_row _ _ _ _ _ _ h.box]; rfl, by rw [cell_of_row _ _ _ _ _ _ h.box]; rfl, frozen_of_row _ _ _ _ _ h.box, frozen_of_row _ _ _ _ _ h.box⟩
theorem CSt.past {w0 V V' : World} {LP LB : List Int} {vP vB : Value} (h : CSt w0 V LP LB vP vB) (hb : Below V.heap.size V V') : CSt w0 V' LP LB vP vB :=
  ⟨(hb.block _ (Array.getElem?_eq_some_iff.1 h.box).1).trans h.box, own_blk h.rp (fun k hk => hb.block k (World.ownsRow.lt h.rp k hk).2), own_blk h.rb (fun k hk => hb.block k (World.ownsRow.lt h.rb k hk).2), h.ne, h.bel.trans (hb.mono h.bel.size)⟩
/-- Strings that stand in memory. -/
structure SA (w : World) (a : Option Addr) (L : List ByteArray) : Prop where
  at' : ∀ k (hk : k < L.length), ∃ (b off : Nat), a = some ⟨b, off, none⟩ ∧ b < w.heap.size ∧ w.cell? ⟨b, off + k, none⟩ = some (.string L[k])
theorem SA.past {w w' : World} {a : Option Addr} {L : List ByteArray} (h : SA w a L) (hb : Below w.heap.size w w') : SA w' a L := ⟨fun k hk => by
  obtain ⟨b, off, e, h1, h2⟩ := h.at' k hk
  exact ⟨b, off, e, Nat.lt_of_lt_of_le h1 hb.size, (hb.cell (p := ⟨b, off + k, none⟩) h1).trans h2⟩⟩
theorem OwnS.sa {w : World} {base : Nat} {v : Value} {L : List ByteArray} (h : OwnS w base v L) : ∃ a cap, v = .slice a L.length cap ∧ SA w a L := by
  have h0 := h
  rcases h.2 with ⟨rfl, hn⟩ | ⟨g, cap, cur, rfl, hg, hr, hc, _⟩
  · exact ⟨none, 0, by rw [hn], ⟨fun k hk => by omega⟩⟩
  · refine ⟨_, cap, rfl, ⟨fun k hk => ⟨g, 0, rfl, (World.ownsRow.lt h0 g rfl).2, ?_⟩⟩⟩
    have := World.ownsRow.cellAt h0 k (by omega)
    rw [Nat.zero_add, this]
    simp [cellsS, hk]
end Go.Proofs.YtcbepmjojppokaaGreatDoor
namespace Go.Proofs.YtcbepmjojppokaaGreatDoor
open Go.RowKit Go.Shelf
/-- What said answers. -/
def SaidO (base : Nat) (w : World) (L : Option (List Int × List Int)) (e : Ending) (w' : World) : Prop :=
  match L with
  | none => e = .returned (.tuple #[.agg #[.slice none 0 0, .slice none 0 0], .bool false]) ∧ Below base w w'
  | some (P, B) => ∃ vP vB, e = .returned (.tuple #[.agg #[vP, vB], .bool true]) ∧ OwnI w' base vP P ∧ OwnI w' base vB B ∧ (∀ g, vP.ownBlock = some g → vB.ownBlock ≠ some g) ∧ Below base w w'
theorem owns_low {w : World} {lo lo' t n k : Nat} {v : Value} {xs : List Value} (h : w.ownsRow lo t n v k xs) (hl : lo' ≤ lo) : w.ownsRow lo' t n v k xs := by
  refine ⟨h.1, ?_⟩
  rcases h.2 with h2 | ⟨g, cap, cur, e, hg, rest⟩
  · exact .inl h2
  · exact .inr ⟨g, cap, cur, e, Nat.le_trans hl hg, rest⟩
theorem pcs_len (l : By) : ∀ (now : By), ∀ x ∈ pcs now l, x.length ≤ now.length + l.length := by
  induction l with
  | nil =>
    intro now x hx
    rw [pcs] at hx
    split at hx
    · cases hx
    · simp at hx; subst hx; simp
  | cons c r ih =>
    intro now x hx
    rw [pcs] at hx
    split at hx
    · split at hx
      · have := ih [] x hx; simp at this ⊢; omega
      · rcases List.mem_cons.1 hx with rfl | hx
        · simp
        · have := ih [] x hx; simp at this ⊢; omega
    · have := ih _ x hx
      simp at this ⊢
      omega
/-- Where the document stands. -/
structure SdI (w0 wr : World) (k : Nat) (W : List By) (Z : Option (List Int × List Int)) : Prop where
  is : ∃ P B vP vB, CSt w0 wr P B vP vB ∧ wdL (decide (k % 2 = 0)) (W.drop k) P B = Z ∧ P.length = k / 2 ∧ B.length ≤ k
set_option maxRecDepth 10000 in
set_option maxHeartbeats 1600000 in
theorem refSaid_any (s : By) (hs : s.length ≤ 4194400) (w : World) : Calls Tryz.prog 19 #[.string (rd s)] w fun e w' => Hid (SaidO w.heap.size w (if (pcs [] s).length % 2 = 1 then wdL true (pcs [] s) [] [] else none) e w') := by
  obtain ⟨W, hW⟩ : ∃ W, W = pcs [] s := ⟨_, rfl⟩
  rw [← hW]
  have HPc : Hid (∀ V, Below w.heap.size w V → V.heap.size = w.heap.size + 1 → Calls Tryz.prog 34 #[.string (rd s)] V fun e w' => ∃ a cap L, e = .returned (.slice a L.length cap) ∧ Hid (SA w' a L ∧ L.map (fun t => t.data.toList) = W ∧ L.length ≤ 4194401 ∧ Below V.heap.size V w')) := hid0 (fun V _ _ => by
    refine (refPieces_any (rd s) (by rw [rd_size]; exact hs) V V.heap.size (Nat.le_refl _)).mono ?_
    rintro e w1 ⟨v, L, rfl, h⟩
    obtain ⟨a, cap, rfl, h2⟩ := OwnS.sa h.out.1
    exact ⟨a, cap, L, rfl, hid0 ⟨h2, by rw [hW]; exact h.out.2.1, h.out.2.2⟩⟩)
  have HWl : Hid (∀ x ∈ W, x.length ≤ 4194400) := hid0 (fun x hx => by
    rw [hW] at hx
    have := pcs_len s [] x hx
    simp at this
    omega)
  clear hW
  obtain ⟨Wa, hWa⟩ : ∃ Wa, Wa = w.alloc (.cells #[.slice none 0 0, .slice none 0 0] 50) := ⟨_, rfl⟩
  have HA : Hid (Below w.heap.size w Wa ∧ Wa.heap.size = w.heap.size + 1 ∧ Wa.heap[w.heap.size]? = some (.cells #[.slice none 0 0, .slice none 0 0] 50 (0, 0))) := hid0 (by
    rw [hWa]
    exact ⟨(Below.refl _ _).alloc (Nat.le_refl _) _, by simp, heap_alloc_new w _⟩)
  have hfold := hWa.symm
  clear hWa
  have HC := hid0 (HPc.out Wa HA.out.1 HA.out.2.1)
  clear HPc
  by_cases hp : W.length % 2 = 1
  · rw [if_pos hp]
    obtain ⟨Z, hZ⟩ : ∃ Z, Z = wdL true W [] [] := ⟨_, rfl⟩
    rw [← hZ]
    have HZ := hid0 hZ
    clear hZ
    go_enter Tryz.func19, Tryz.ntmps19
    go_wp2_with (go_at_call 34; refine HC.out.mono ?_; rintro e x1 ⟨a, cap, L, rfl, h1⟩
                 have hlen : L.length = W.length := by
                   have := congrArg List.length h1.out.2.1
                   rw [List.length_map] at this
                   exact this
                 have hm : (L.length : Int) % 2 = 1 := by omega
                 have HX := hid0 h1.out
                 have HS0 : Hid (CSt x1 (x1.alloc (.cells #[.slice none 0 0, .slice none 0 0] 50)) [] [] (.slice none 0 0) (.slice none 0 0)) := hid0 ⟨heap_alloc_new x1 _, World.ownsRow_nil _ _ _ _, World.ownsRow_nil _ _ _ _, (fun g h => nomatch h), (Below.refl _ _).alloc (Nat.le_refl _) _⟩
                 have HLen := hid0 hlen
                 clear h1 hlen)
    obtain ⟨V0, hV0⟩ : ∃ V0, V0 = (x1.alloc (.cells #[.slice none 0 0, .slice none 0 0] 50)) := ⟨_, rfl⟩
    rw [← hV0] at HS0 ⊢
    clear hV0
    have HZ0 : Hid (SdI x1 V0 0 W Z) := hid0 ⟨_, _, _, _, HS0.out, HZ.out.symm, rfl, Nat.le_refl _⟩
    clear HS0 HZ
    have hll : L.length ≤ 4194401 := HX.out.2.2.1
    have HZn : Hid (Z = none → ∀ wr P B vP vB, CSt x1 wr P B vP vB → Hid (SaidO w.heap.size w Z (.returned (.tuple #[.agg #[.slice none 0 0, .slice none 0 0], .bool false])) ((wr.setCell ⟨w.heap.size, 0, none⟩ (.slice none 0 0)).setCell ⟨w.heap.size, 1, none⟩ (.slice none 0 0)))) := hid0 (fun hz wr P B vP vB hc => by
      rw [hz]
      exact hid0 ⟨rfl, (((HA.out.1.trans (HX.out.2.2.2.mono HA.out.1.size)).trans (hc.bel.mono (Nat.le_trans HA.out.1.size HX.out.2.2.2.size))).setCell (p := ⟨w.heap.size, 0, none⟩) (Nat.le_refl _) _).setCell (p := ⟨w.heap.size, 1, none⟩) (Nat.le_refl _) _⟩)
    have HRow : Hid (∀ wr P B vP vB, CSt x1 wr P B vP vB → wr.heap[w.heap.size]? = some (.cells #[.slice none 0 0, .slice none 0 0] 50 (0, 0))) := hid0 (fun wr P B vP vB hc => by
      have h0 : w.heap.size < Wa.heap.size := by rw [HA.out.2.1]; omega
      exact (hc.bel.block _ (Nat.lt_of_lt_of_le h0 HX.out.2.2.2.size)).trans ((HX.out.2.2.2.block _ h0).trans HA.out.2.2))
    clear hm
    go_loopw [6] (fun i wr => ∃ k : Nat, k ≤ L.length ∧ i = .int .i64 (k : Int) ∧ Hid (SdI x1 wr k W Z)) (fun i _ => L.length - (intOf i).toNat)
    case atStart => exact ⟨0, Nat.zero_le _, rfl, HZ0⟩
    case round =>
      clear HZ0
      obtain ⟨k, hk, rfl, HI⟩ := hrel
      obtain ⟨P, B, vP, vB, hS, hZk, hPl, hBl⟩ := HI.out.is
      clear HI
      have HS := hid0 hS
      have HZk := hid0 hZk
      have hrow := HRow.out _ _ _ _ _ hS
      by_cases hlt : k < L.length
      · have hkI : (k : Int) < (L.length : Int) := by omega
        have hkI0 : (0 : Int) ≤ (k : Int) := by omega
        obtain ⟨b, off, rfl, hbl, hcell⟩ := HX.out.1.at' k hlt
        have y0 : wr.cell? ⟨b, off + k, none⟩ = some (.string L[k]) := (hS.bel.cell (p := ⟨b, off + k, none⟩) hbl).trans hcell
        have hWk : W.drop k = L[k].data.toList :: W.drop (k + 1) := by
          rw [List.drop_eq_getElem_cons (by rw [← HLen.out]; exact hlt)]
          congr 1
          have := HX.out.2.1
          subst this
          simp
        rw [hWk] at hZk
        obtain ⟨T, hT⟩ : ∃ T, T = L[k] := ⟨_, rfl⟩
        have hTs : L[k].size ≤ 4194400 := by
          have := HWl.out L[k].data.toList (by rw [← HX.out.2.1]; exact List.mem_map_of_mem (List.getElem_mem hlt))
          rw [bsize0] at this
          exact this
        rw [← hT] at y0 hZk hTs
        clear hcell hWk HZk hT
        by_cases hk2 : k % 2 = 0
        · have hk2I : (k : Int) % 2 = 0 := by omega
          rw [decide_eq_true hk2, wdL] at hZk
          by_cases hy : T.data.toList = yesW
          · rw [if_pos (.inl hy), if_pos hy] at hZk
            have h1 : (T.toList == [195, 183]) = true := by rw [ByteArray.toList_eq]; simpa [yesW] using hy
            obtain ⟨c0, c1, c2, c3⟩ := hS.boxc
            have hbA : Below wr.heap.size wr (wr.alloc (.cells #[.int .i64 (P.length : Int)] 3)) := (Below.refl _ _).alloc (Nat.le_refl _) _
            obtain ⟨v6, w6, hr6, ho6, hg6, hat6⟩ := run_app_own (W := wr.alloc (.cells #[.int .i64 (P.length : Int)] 3)) x1.heap.size vB B (own_blk hS.rb (fun k hk => hbA.block k (World.ownsRow.lt hS.rb k hk).2)) ⟨wr.heap.size, 0, none⟩ 1 [(P.length : Int)] one_cell (by show B.length + 1 ≤ _; omega) (Nat.le_trans hS.bel.size hbA.size)
            obtain ⟨q1, q2, q3, q4⟩ := hS.growB hbA ho6 hg6 hat6
            have z0 : w6.cell? ⟨x1.heap.size, 1, none⟩ = some vB := by rw [cell_of_row _ _ _ _ _ _ q1]; rfl
            have z1 : w6.frozen? ⟨x1.heap.size, 1, none⟩ = false := frozen_of_row _ _ _ _ _ q1
            obtain ⟨a6, c6, rfl⟩ := own_slC ho6
            have HN : Hid (SdI x1 (w6.setCell ⟨x1.heap.size, 1, none⟩ (.slice a6 (B ++ [(P.length : Int)]).length c6)) (k + 1) W Z) := hid0 ⟨P, _, _, _, CSt.putB q1 q2 ho6 q3 q4, by rw [decide_eq_false (by omega)]; exact hZk, by omega, by rw [List.length_append]; simp; omega⟩
            have hq1 : (k : Int) / 2 = (P.length : Int) := by omega
            have hq2 : (k : Int).tdiv 2 = (P.length : Int) := by rw [Int.tdiv_eq_ediv_of_nonneg hkI0]; exact hq1
            clear hS hrow hZk hy HS HRow HZn ho6 hg6 hat6 q1 q2 q3 q4 hbA hPl
            generalize (B ++ [(P.length : Int)]).length = n6 at *
            go_wp2_with (first
              | (at_builtin; refine wpList_run rfl _ _ 48 rfl _ _ rfl rfl hr6 ?_; clear hr6)
              | fail)
            go_roundw
            case rel => exact ⟨k + 1, hlt, by go_num, HN⟩
            case measure => simp [intOf]; omega
          · by_cases hn : T.data.toList = noW
            · rw [if_pos (.inr hn), if_neg hy] at hZk
              have h1 : (T.toList == [195, 183]) = false := by rw [ByteArray.toList_eq]; simpa [yesW] using hy
              have h2 : (T.toList == [195, 151]) = true := by rw [ByteArray.toList_eq]; simpa [noW] using hn
              have h2b : (T.toList != [195, 151]) = false := by rw [bne, h2]; rfl
              have HN : Hid (SdI x1 wr (k + 1) W Z) := hid0 ⟨P, B, vP, vB, hS, by rw [decide_eq_false (by omega)]; exact hZk, by omega, by omega⟩
              clear hS hrow hZk hy hn HS HRow HZn
              go_wp2
              go_roundw
              case rel => exact ⟨k + 1, hlt, by go_num, HN⟩
              case measure => simp [intOf]; omega
            · have hz : Z = none := by rw [if_neg (fun h => h.elim hy hn)] at hZk; exact hZk.symm
              have h1 : (T.toList == [195, 183]) = false := by rw [ByteArray.toList_eq]; simpa [yesW] using hy
              have h2 : (T.toList == [195, 151]) = false := by rw [ByteArray.toList_eq]; simpa [noW] using hn
              have h2b : (T.toList != [195, 151]) = true := by rw [bne, h2]; rfl
              have HO := hid0 (HZn.out hz _ _ _ _ _ hS)
              have z0 : wr.cell? ⟨w.heap.size, 0, none⟩ = some (.slice none 0 0) := by rw [cell_of_row _ _ _ _ _ _ hrow]; rfl
              have z1 : wr.cell? ⟨w.heap.size, 1, none⟩ = some (.slice none 0 0) := by rw [cell_of_row _ _ _ _ _ _ hrow]; rfl
              have f0 : wr.frozen? ⟨w.heap.size, 0, none⟩ = false := frozen_of_row _ _ _ _ _ hrow
              have f1 : wr.frozen? ⟨w.heap.size, 1, none⟩ = false := frozen_of_row _ _ _ _ _ hrow
              have r2 := heap_setCell_same wr w.heap.size 0 _ _ (.slice none 0 0) hrow
              have HR3 := hid0 (heap_setCell_same (wr.setCell ⟨w.heap.size, 0, none⟩ (.slice none 0 0)) w.heap.size 1 _ _ (.slice none 0 0) r2)
              clear hS hrow r2 hZk hy hn hz HS HRow HZn
              go_wp2
              refine bodyPost_ret (ret_row rfl _ _ w.heap.size 50 #[.slice none 0 0, .slice none 0 0] _ _ rfl HR3.out Tryz.underlying50 rfl (by kernel_rfl) rfl) rfl ?_
              exact HO.out
        · have hk2I : (k : Int) % 2 = 1 := by omega
          rw [decide_eq_false hk2, wdL] at hZk
          have hTl : T.data.toList.length = T.size := bsize0 T
          have HPt : Hid (T.size ≤ 4194400 → ∀ V, Calls Tryz.prog 35 #[.string T] V fun e w' => e = .returned (.tuple #[.int .i64 (ptV T.data.toList : Int), .int .i64 (ptK T.data.toList : Int)]) ∧ w' = V) := hid0 (fun h V => refPoint_any T h V)
          have HPc := hid0 (HPt.out hTs)
          cases hw : wOk T.data.toList with
          | true =>
            rw [if_pos hw] at hZk
            have hw2 := wOk_pt T.data.toList
            rw [hw] at hw2
            have hw3 := hw2.symm
            rw [Bool.and_eq_true, decide_eq_true_eq] at hw3
            have e1 : ptV T.data.toList = hexN T.data.toList := by unfold ptV; rw [if_pos hw3.1]; exact wOk_val _ hw
            have e2 : ptK T.data.toList = T.size := by unfold ptK; rw [if_pos hw3.1, hw3.2, hTl]
            have h4 : T.size ≠ 0 := by
              have := hw3.1
              unfold ptOk at this
              simp only [Bool.and_eq_true, decide_eq_true_eq] at this
              omega
            rw [e1, e2] at HPc
            obtain ⟨c0, c1, c2, c3⟩ := hS.boxc
            have hbA : Below wr.heap.size wr (wr.alloc (.cells #[.int .i64 (hexN T.data.toList : Int)] 3)) := (Below.refl _ _).alloc (Nat.le_refl _) _
            obtain ⟨v6, w6, hr6, ho6, hg6, hat6⟩ := run_app_own (W := wr.alloc (.cells #[.int .i64 (hexN T.data.toList : Int)] 3)) x1.heap.size vP P (own_blk hS.rp (fun k hk => hbA.block k (World.ownsRow.lt hS.rp k hk).2)) ⟨wr.heap.size, 0, none⟩ 1 [(hexN T.data.toList : Int)] one_cell (by show P.length + 1 ≤ _; omega) (Nat.le_trans hS.bel.size hbA.size)
            obtain ⟨q1, q2, q3, q4⟩ := hS.grow hbA ho6 hg6 hat6
            have z0 : w6.cell? ⟨x1.heap.size, 0, none⟩ = some vP := by rw [cell_of_row _ _ _ _ _ _ q1]; rfl
            have z1 : w6.frozen? ⟨x1.heap.size, 0, none⟩ = false := frozen_of_row _ _ _ _ _ q1
            obtain ⟨a6, c6, rfl⟩ := own_slC ho6
            have HN : Hid (SdI x1 (w6.setCell ⟨x1.heap.size, 0, none⟩ (.slice a6 (P ++ [(hexN T.data.toList : Int)]).length c6)) (k + 1) W Z) := hid0 ⟨_, B, _, _, CSt.putP q1 ho6 q2 q3 q4, by rw [decide_eq_true (by omega : (k + 1) % 2 = 0)]; exact hZk, by rw [List.length_append]; simp; omega, by omega⟩
            clear hS hrow hZk hw hw2 hw3 e1 e2 HS HRow HZn ho6 hg6 hat6 q1 q2 q3 q4 hbA HPt hTl
            generalize (P ++ [(hexN T.data.toList : Int)]).length = n6 at *
            generalize hexN T.data.toList = hx at *
            have g0 : ((T.size : Int) == 0) = false := by simpa using h4
            have g1 : ((T.size : Int) != (T.size : Int)) = false := by simp
            go_wp2_with (first
              | (go_at_call 35; refine (HPc.out _).mono ?_; rintro e y1 ⟨rfl, rfl⟩)
              | (at_builtin; refine wpList_run rfl _ _ 48 rfl _ _ rfl rfl hr6 ?_; clear hr6)
              | fail)
            go_roundw
            case rel => exact ⟨k + 1, hlt, by go_num, HN⟩
            case measure => simp [intOf]; omega
          | false =>
            have hz : Z = none := by rw [hw, if_neg (by simp)] at hZk; exact hZk.symm
            have hbad : (ptK T.data.toList = 0) ∨ (ptK T.data.toList ≠ 0 ∧ ptK T.data.toList ≠ T.size) := by
              have hw2 := wOk_pt T.data.toList
              rw [hw] at hw2
              unfold ptK
              cases ho : ptOk T.data.toList with
              | false => exact .inl rfl
              | true =>
                rw [ho, Bool.true_and] at hw2
                have h5 := of_decide_eq_false hw2.symm
                have h6 := ho
                unfold ptOk at h6
                simp only [Bool.and_eq_true, decide_eq_true_eq] at h6
                refine .inr ⟨by rw [if_pos rfl]; omega, ?_⟩
                rw [if_pos rfl, ← hTl]
                exact h5
            have HO := hid0 (HZn.out hz _ _ _ _ _ hS)
            have z0 : wr.cell? ⟨w.heap.size, 0, none⟩ = some (.slice none 0 0) := by rw [cell_of_row _ _ _ _ _ _ hrow]; rfl
            have z1 : wr.cell? ⟨w.heap.size, 1, none⟩ = some (.slice none 0 0) := by rw [cell_of_row _ _ _ _ _ _ hrow]; rfl
            have f0 : wr.frozen? ⟨w.heap.size, 0, none⟩ = false := frozen_of_row _ _ _ _ _ hrow
            have f1 : wr.frozen? ⟨w.heap.size, 1, none⟩ = false := frozen_of_row _ _ _ _ _ hrow
            have r2 := heap_setCell_same wr w.heap.size 0 _ _ (.slice none 0 0) hrow
            have HR3 := hid0 (heap_setCell_same (wr.setCell ⟨w.heap.size, 0, none⟩ (.slice none 0 0)) w.heap.size 1 _ _ (.slice none 0 0) r2)
            clear hS hrow r2 hZk hz HS HRow HZn
            generalize ptK T.data.toList = kk at *
            generalize ptV T.data.toList = nn at *
            clear hw HPt hTl
            rcases hbad with h0 | ⟨h0, h5⟩
            · have g0 : ((kk : Int) == 0) = true := by simpa using h0
              go_wp2_with (first
                | (go_at_call 35; refine (HPc.out _).mono ?_; rintro e y1 ⟨rfl, rfl⟩)
                | fail)
              refine bodyPost_ret (ret_row rfl _ _ w.heap.size 50 #[.slice none 0 0, .slice none 0 0] _ _ rfl HR3.out Tryz.underlying50 rfl (by kernel_rfl) rfl) rfl ?_
              exact HO.out
            · have g0 : ((kk : Int) == 0) = false := by simpa using h0
              have g1 : ((kk : Int) != (T.size : Int)) = true := by simp; omega
              go_wp2_with (first
                | (go_at_call 35; refine (HPc.out _).mono ?_; rintro e y1 ⟨rfl, rfl⟩)
                | fail)
              refine bodyPost_ret (ret_row rfl _ _ w.heap.size 50 #[.slice none 0 0, .slice none 0 0] _ _ rfl HR3.out Tryz.underlying50 rfl (by kernel_rfl) rfl) rfl ?_
              exact HO.out
      · have hkI : ¬ (k : Int) < (L.length : Int) := by omega
        rw [List.drop_of_length_le (by rw [← HLen.out]; omega), wdL] at hZk
        obtain ⟨c0, c1, _, _⟩ := hS.boxc
        obtain ⟨aP, cP, rfl⟩ := own_slC hS.rp
        obtain ⟨aB, cB, rfl⟩ := own_slC hS.rb
        have z0 : wr.cell? ⟨w.heap.size, 0, none⟩ = some (.slice none 0 0) := by rw [cell_of_row _ _ _ _ _ _ hrow]; rfl
        have z1 : wr.cell? ⟨w.heap.size, 1, none⟩ = some (.slice none 0 0) := by rw [cell_of_row _ _ _ _ _ _ hrow]; rfl
        have f0 : wr.frozen? ⟨w.heap.size, 0, none⟩ = false := frozen_of_row _ _ _ _ _ hrow
        have f1 : wr.frozen? ⟨w.heap.size, 1, none⟩ = false := frozen_of_row _ _ _ _ _ hrow
        have r2 := heap_setCell_same wr w.heap.size 0 _ _ (.slice aP P.length cP) hrow
        have HR3 := hid0 (heap_setCell_same (wr.setCell ⟨w.heap.size, 0, none⟩ (.slice aP P.length cP)) w.heap.size 1 _ _ (.slice aB B.length cB) r2)
        have hlow : w.heap.size + 1 ≤ x1.heap.size := by rw [← HA.out.2.1]; exact HX.out.2.2.2.size
        have HO : Hid (Hid (SaidO w.heap.size w Z (.returned (.tuple #[.agg #[.slice aP P.length cP, .slice aB B.length cB], .bool true])) ((wr.setCell ⟨w.heap.size, 0, none⟩ (.slice aP P.length cP)).setCell ⟨w.heap.size, 1, none⟩ (.slice aB B.length cB)))) := hid0 (by
          rw [← hZk]
          have hkp : ∀ j, x1.heap.size ≤ j → ((wr.setCell ⟨w.heap.size, 0, none⟩ (.slice aP P.length cP)).setCell ⟨w.heap.size, 1, none⟩ (.slice aB B.length cB)).heap[j]? = wr.heap[j]? := fun j hj => by
            rw [Below.heap_setCell _ ⟨w.heap.size, 1, none⟩ _ j (by show j ≠ w.heap.size; omega), Below.heap_setCell _ ⟨w.heap.size, 0, none⟩ _ j (by show j ≠ w.heap.size; omega)]
          refine hid0 ⟨_, _, rfl, ?_, ?_, hS.ne, ?_⟩
          · exact owns_low (own_blk hS.rp (fun j hj => hkp j (World.ownsRow.lt hS.rp j hj).1)) (by omega)
          · exact owns_low (own_blk hS.rb (fun j hj => hkp j (World.ownsRow.lt hS.rb j hj).1)) (by omega)
          · exact (((HA.out.1.trans (HX.out.2.2.2.mono HA.out.1.size)).trans (hS.bel.mono (Nat.le_trans HA.out.1.size HX.out.2.2.2.size))).setCell (p := ⟨w.heap.size, 0, none⟩) (Nat.le_refl _) _).setCell (p := ⟨w.heap.size, 1, none⟩) (Nat.le_refl _) _)
        clear hS hrow r2 hZk HS HZk HRow HZn hlow hPl hBl
        go_wp2
        refine bodyPost_ret (ret_row rfl _ _ w.heap.size 50 #[.slice aP P.length cP, .slice aB B.length cB] _ _ rfl HR3.out Tryz.underlying50 rfl (by kernel_rfl) rfl) rfl ?_
        exact HO.out
  · rw [if_neg hp]
    go_enter Tryz.func19, Tryz.ntmps19
    go_wp2_with (go_at_call 34; refine HC.out.mono ?_; rintro e x1 ⟨a, cap, L, rfl, h1⟩
                 have hm : (L.length : Int) % 2 = 0 := by
                   have := congrArg List.length h1.out.2.1
                   rw [List.length_map] at this
                   omega
                 have hbx : Below Wa.heap.size Wa (x1.alloc (.cells #[.slice none 0 0, .slice none 0 0] 50)) := h1.out.2.2.2.alloc h1.out.2.2.2.size _
                 have hrow : (x1.alloc (.cells #[.slice none 0 0, .slice none 0 0] 50)).heap[w.heap.size]? = some (.cells #[.slice none 0 0, .slice none 0 0] 50 (0, 0)) := (hbx.block _ (by rw [HA.out.2.1]; omega)).trans HA.out.2.2
                 have z0 : (x1.alloc (.cells #[.slice none 0 0, .slice none 0 0] 50)).cell? ⟨w.heap.size, 0, none⟩ = some (.slice none 0 0) := by rw [cell_of_row _ _ _ _ _ _ hrow]; rfl
                 have z1 : (x1.alloc (.cells #[.slice none 0 0, .slice none 0 0] 50)).cell? ⟨w.heap.size, 1, none⟩ = some (.slice none 0 0) := by rw [cell_of_row _ _ _ _ _ _ hrow]; rfl
                 have f0 : (x1.alloc (.cells #[.slice none 0 0, .slice none 0 0] 50)).frozen? ⟨w.heap.size, 0, none⟩ = false := frozen_of_row _ _ _ _ _ hrow
                 have f1 : (x1.alloc (.cells #[.slice none 0 0, .slice none 0 0] 50)).frozen? ⟨w.heap.size, 1, none⟩ = false := frozen_of_row _ _ _ _ _ hrow
                 have r2 := heap_setCell_same (x1.alloc (.cells #[.slice none 0 0, .slice none 0 0] 50)) w.heap.size 0 _ _ (.slice none 0 0) hrow
                 have r3 := heap_setCell_same ((x1.alloc (.cells #[.slice none 0 0, .slice none 0 0] 50)).setCell ⟨w.heap.size, 0, none⟩ (.slice none 0 0)) w.heap.size 1 _ _ (.slice none 0 0) r2
                 have q0 : ((x1.alloc (.cells #[.slice none 0 0, .slice none 0 0] 50)).setCell ⟨w.heap.size, 0, none⟩ (.slice none 0 0)).cell? ⟨w.heap.size, 0, none⟩ = some (.slice none 0 0) := by rw [cell_of_row _ _ _ _ _ _ r2]; rfl
                 have q1 : (((x1.alloc (.cells #[.slice none 0 0, .slice none 0 0] 50)).setCell ⟨w.heap.size, 0, none⟩ (.slice none 0 0)).setCell ⟨w.heap.size, 1, none⟩ (.slice none 0 0)).cell? ⟨w.heap.size, 1, none⟩ = some (.slice none 0 0) := by rw [cell_of_row _ _ _ _ _ _ r3]; rfl
                 have HR3 := hid0 r3
                 have HB := hid0 (HA.out.1.trans (hbx.mono HA.out.1.size))
                 clear h1 hbx hrow r2 r3 q0 q1)
    refine bodyPost_ret (ret_row rfl _ _ w.heap.size 50 #[.slice none 0 0, .slice none 0 0] _ _ rfl HR3.out Tryz.underlying50 rfl (by kernel_rfl) rfl) rfl ?_
    exact hid0 ⟨rfl, (HB.out.setCell (p := ⟨w.heap.size, 0, none⟩) (Nat.le_refl _) _).setCell (p := ⟨w.heap.size, 1, none⟩) (Nat.le_refl _) _⟩
end Go.Proofs.YtcbepmjojppokaaGreatDoor
namespace Go.Proofs.YtcbepmjojppokaaGreatDoor
open Go.RowKit Go.Shelf
theorem lines_each (l cur b : By) (h : b ∈ linesGo cur l) : b.length ≤ cur.length + l.length := by
  induction l generalizing cur with
  | nil =>
    rw [linesGo] at h
    have := List.mem_singleton.1 h
    subst this
    simp
  | cons c r ih =>
    rw [linesGo] at h
    split at h
    · rcases List.mem_cons.1 h with rfl | h
      · have := chopR_len cur
        simp
        omega
      · have := ih [] h
        simp at this ⊢
        omega
    · have := ih _ h
      simp at this ⊢
      omega
theorem bare_next (l : By) : bareOf l = [] ∨ nextW (bareOf l) ≠ [] := by
  rw [bareOf_ahead]
  unfold trimB
  rw [← trim_comm]
  by_cases h : ((aheadOf 35 l).reverse.dropWhile isBl).reverse.dropWhile isBl = []
  · exact .inl h
  · exact .inr (dropW_head _ h)
theorem lnS_doc (l : By) : lnS (bareOf l) = if (pcs [] (bareOf l)).length % 2 = 1 then wdL true (pcs [] (bareOf l)) [] [] else none := by
  unfold lnS
  exact (rdS_wd _ (bareOf l) [] [] (Nat.le_refl _) (bare_next l)).1
theorem parF_take (M : List By) (k : Nat) (hk : k < M.length) (C : List Cx) (h : parF 0 [] (M.take k) = .ok C) : parF 0 [] (M.take (k + 1)) = stepP k C M[k] := by
  rw [List.take_succ_eq_append_getElem hk, parF_snoc, h, List.length_take, Nat.min_eq_left (Nat.le_of_lt hk), Nat.zero_add]
theorem parF_bad (M : List By) (k l i : Nat) (h : parF 0 [] (M.take k) = .bad l i) : parF 0 [] M = .bad l i := by
  have := parF_app_bad (M.take k) (M.drop k) l i 0 [] h
  rwa [List.take_append_drop] at this
theorem wdL_len (W : List By) : ∀ (b : Bool) (P B P' B' : List Int), wdL b W P B = some (P', B') → P'.length ≤ P.length + W.length := by
  induction W with
  | nil =>
    intro b P B P' B' h
    have h2 : some (P, B) = some (P', B') := by cases b <;> exact h
    injection h2 with h2
    injection h2 with h2 _
    rw [h2]
    simp
  | cons w r ih =>
    intro b P B P' B' h
    cases b with
    | true =>
      rw [wdL] at h
      split at h
      · have := ih _ _ _ _ _ h
        simp
        omega
      · cases h
    | false =>
      rw [wdL] at h
      split at h
      · have := ih _ _ _ _ _ h
        simp at this ⊢
        omega
      · cases h
theorem pcs_cnt (s : By) : ∀ (now : By), (pcs now s).length ≤ s.length + 1 := by
  induction s with
  | nil =>
    intro now
    rw [pcs]
    split <;> simp
  | cons c r ih =>
    intro now
    have h1 := ih []
    have h2 := ih (now ++ [c])
    rw [pcs]
    (repeat' split) <;> simp <;> omega
theorem lnS_len (l : By) (P B : List Int) (h : lnS (bareOf l) = some (P, B)) : P.length ≤ l.length + 1 := by
  rw [lnS_doc] at h
  split at h
  · have h1 := wdL_len _ _ _ _ _ _ h
    have h2 := pcs_cnt (bareOf l) []
    have h3 := bareOf_len l
    simp at h1
    omega
  · cases h
end Go.Proofs.YtcbepmjojppokaaGreatDoor
namespace Go.Proofs.YtcbepmjojppokaaGreatDoor
open Go.RowKit Go.Shelf
/-- What the document answers. -/
def DoP (w : World) (s : By) (e : Ending) (w' : World) : Prop :=
  if 1048576 < s.length then e = .returned (.tuple #[.slice none 0 0, .int .i64 0, .int .i64 3]) ∧ Below w.heap.size w w'
  else match parF 0 [] ((rawL s).map bareN) with
  | .ok C => ∃ v VS, e = .returned (.tuple #[v, .int .i64 0, .int .i64 0]) ∧ PC w' w.heap.size v VS C ∧ Below w.heap.size w w'
  | .bad k i => e = .returned (.tuple #[.slice none 0 0, .int .i64 (k : Int), .int .i64 ((i : Int) + 1)]) ∧ Below w.heap.size w w'
theorem rd_toList (t : ByteArray) : rd t.data.toList = t := by cases t; rfl
/-- What the document's said answers, with its case in a box, asked about its points, and put behind. -/
theorem said_step {x1 wr y : World} {a : Option Addr} {c : Nat} {VS : List Value} {C : List Cx} {P B : List Int} {aP aB : Option Addr} {cP cB : Nat} (hx : Below x1.heap.size x1 wr) (hPC : PC wr x1.heap.size (.slice a C.length c) VS C) (hCl : C.length ≤ 20000)
    (hP : OwnI y wr.heap.size (.slice aP P.length cP) P) (hB : OwnI y wr.heap.size (.slice aB B.length cB) B) (hne : ∀ g, (Value.slice aP P.length cP).ownBlock = some g → (Value.slice aB B.length cB).ownBlock ≠ some g) (hy : Below wr.heap.size wr y) (hl : P.length ≤ 1000000000) :
    (let Y := y.alloc (.cells #[.slice aP P.length cP, .slice aB B.length cB] 50)
     (Y.cell? ⟨y.heap.size, 0, none⟩ = some (.slice aP P.length cP) ∧ Below x1.heap.size x1 Y) ∧
     Calls Tryz.prog 20 #[.slice aP P.length cP] Y fun e w' => e = .returned (.bool (P.all scalarP)) ∧ w'.cell? ⟨y.heap.size, 0, none⟩ = some (.slice aP P.length cP) ∧ w'.cell? ⟨y.heap.size, 1, none⟩ = some (.slice aB B.length cB) ∧ Hid (Below x1.heap.size x1 w') ∧
       ∃ a9 c9 w9, (Builtin.append_ #[22, 22] 22 #[.slice a C.length c, .slice (some ⟨w'.heap.size, 0, none⟩) 1 1]).run Tryz.prog (w'.alloc (.cells #[.slice aP P.length cP, .slice aB B.length cB] 50)) = .ok (.slice a9 (C.length + 1) c9) w9 ∧
         Hid (PC w9 x1.heap.size (.slice a9 (C.length + 1) c9) (VS ++ [.slice aP P.length cP, .slice aB B.length cB]) (C ++ [(P, B)]) ∧ Below x1.heap.size x1 w9)) := by
  intro Y
  have h1 : Y.heap[y.heap.size]? = some (.cells #[.slice aP P.length cP, .slice aB B.length cB] 50 (0, 0)) := heap_alloc_new y _
  have hYb : Below y.heap.size y Y := (Below.refl _ y).alloc (Nat.le_refl _) _
  have hwY : Below wr.heap.size wr Y := hy.trans (hYb.mono hy.size)
  have hxY : Below x1.heap.size x1 Y := hx.trans (hwY.mono hx.size)
  obtain ⟨aq, cq, eq, hIA⟩ := OwnI.ia hP
  cases eq
  have hIY := hIA.past hYb
  refine ⟨⟨by rw [cell_of_row _ _ _ _ _ _ h1]; rfl, hxY⟩, (refScalars_any P aP cP Y hl hIY).mono ?_⟩
  rintro e w' ⟨rfl, q, rfl⟩
  have hD : Below Y.heap.size Y (Y.drewN q) := below_drew' (Below.refl _ _) _
  have h2 : (Y.drewN q).heap[y.heap.size]? = some (.cells #[.slice aP P.length cP, .slice aB B.length cB] 50 (0, 0)) := h1
  have hwD : Below wr.heap.size wr (Y.drewN q) := hwY.trans (hD.mono hwY.size)
  have hyD : Below y.heap.size y (Y.drewN q) := hYb.trans (hD.mono hYb.size)
  refine ⟨rfl, by rw [cell_of_row _ _ _ _ _ _ h2]; rfl, by rw [cell_of_row _ _ _ _ _ _ h2]; rfl, hid0 (hx.trans (hwD.mono hx.size)), ?_⟩
  obtain ⟨VA, hVA⟩ : ∃ VA, VA = (Y.drewN q).alloc (.cells #[.slice aP P.length cP, .slice aB B.length cB] 50) := ⟨_, rfl⟩
  have hba : Below (Y.drewN q).heap.size (Y.drewN q) VA := by rw [hVA]; exact (Below.refl _ _).alloc (Nat.le_refl _) _
  have hra : VA.heap[(Y.drewN q).heap.size]? = some (.cells #[.slice aP P.length cP, .slice aB B.length cB] 50 (0, 0)) := by rw [hVA]; exact heap_alloc_new _ _
  have hwA : Below wr.heap.size wr VA := hwD.trans (hba.mono hwD.size)
  have hyA : Below y.heap.size y VA := hyD.trans (hba.mono hyD.size)
  obtain ⟨v9, w9, hr9, ho9, hg9, _⟩ := run_app_case (W := VA) x1.heap.size _ C.length VS (own_blk hPC.own (fun q hq => hwA.block q (World.ownsRow.lt hPC.own q hq).2)) (Y.drewN q).heap.size (.slice aP P.length cP) (.slice aB B.length cB) (by rw [cell_of_row _ _ _ _ _ _ hra]; rfl) (by rw [cell_of_row _ _ _ _ _ _ hra]; rfl) rfl rfl (by omega) (Nat.le_trans hx.size hwA.size)
  obtain ⟨a9, c9, rfl⟩ := own_slC ho9
  rw [← hVA]
  refine ⟨a9, c9, w9, hr9, hid0 ⟨?_, ?_⟩⟩
  · exact PC.snoc (x := (P, B)) hPC hy hyA hP hB hne hx.size ho9 hg9
  · exact (hx.trans (hwA.mono hx.size)).grown hg9 (Nat.le_trans hx.size hwA.size) (fun q hq => (World.ownsRow.lt hPC.own q hq).1)
set_option maxRecDepth 100000 in
set_option maxHeartbeats 4000000 in
theorem refParse_any (s : By) (w : World) :
    Calls Tryz.prog 7 #[.string (rd s)] w fun e w' => Hid (DoP w s e w') := by
  have hsz : ((rd s).size : Int) = (s.length : Int) := rfl
  by_cases hl : 1048576 < s.length
  · have hbI : ((rd s).size : Int) > 1048576 := by omega
    have HO : Hid (∀ w', Below w.heap.size w w' → DoP w s (.returned (.tuple #[.slice none 0 0, .int .i64 0, .int .i64 3])) w') := hid0 (fun w' h => by unfold DoP; rw [if_pos hl]; exact ⟨rfl, h⟩)
    clear hl hsz
    generalize rd s = RS at *
    go_enter Tryz.func7, Tryz.ntmps7
    go_wp2
    go_ret3
    exact hid0 (HO.out _ (Below.refl _ _))
  · have hbI : ¬ ((rd s).size : Int) > 1048576 := by omega
    obtain ⟨M, hM⟩ : ∃ M, M = (linesOf s).map bareOf := ⟨_, rfl⟩
    have hsame := parF_same s
    rw [← hM] at hsame
    have HLi : Hid (Calls Tryz.prog 17 #[.string (rd s)] w fun e w' => ∃ a c L, e = .returned (.slice a L.length c) ∧ Hid (SA w' a L ∧ (∀ k (hk : k < L.length), ∃ h : k < M.length, M[k] = bareOf L[k].data.toList ∧ L[k].size ≤ 1048576) ∧ L.length = M.length ∧ L.length ≤ 4194401 ∧ Below w.heap.size w w')) := hid0 (by
      refine (refLines_any (rd s) (by rw [rd_size]; omega) w w.heap.size (Nat.le_refl _)).mono ?_
      rintro e w' ⟨v, L, rfl, h1, h2, h3, h4⟩
      obtain ⟨a, c, rfl, h5⟩ := h1.sa
      have hlen : L.length = M.length := by rw [hM, List.length_map, show linesOf s = L.map (fun t => t.data.toList) from h2.symm, List.length_map]
      refine ⟨a, c, L, rfl, hid0 ⟨h5, fun k hk => ⟨by omega, ?_, ?_⟩, hlen, h3, h4⟩⟩
      · have h2' : linesOf s = L.map (fun t => t.data.toList) := h2.symm
        simp only [hM, h2', List.getElem_map]
      · have h2' : linesOf s = L.map (fun t => t.data.toList) := h2.symm
        have hm : L[k].data.toList ∈ linesGo [] s := by
          show _ ∈ linesOf s
          rw [h2']
          exact List.mem_map_of_mem (List.getElem_mem hk)
        have h6 := lines_each s [] _ hm
        have h7 : L[k].data.toList.length = L[k].size := Array.length_toList
        simp at h6
        omega)
    have HOk : Hid (∀ v VS C w', parF 0 [] M = .ok C → PC w' w.heap.size v VS C → Below w.heap.size w w' → DoP w s (.returned (.tuple #[v, .int .i64 0, .int .i64 0])) w') := hid0 (fun v VS C w' h1 h2 h3 => by unfold DoP; rw [if_neg hl, ← hsame, h1]; exact ⟨_, VS, rfl, h2, h3⟩)
    have HBad : Hid (∀ (k i : Nat) w', parF 0 [] M = .bad k i → Below w.heap.size w w' → DoP w s (.returned (.tuple #[.slice none 0 0, .int .i64 (k : Int), .int .i64 ((i : Int) + 1)])) w') := hid0 (fun k i w' h1 h2 => by unfold DoP; rw [if_neg hl, ← hsame, h1]; exact ⟨rfl, h2⟩)
    clear hl hsz hM hsame
    generalize rd s = RS at *
    go_enter Tryz.func7, Tryz.ntmps7
    go_wp2_with (first
      | (go_at_call 17; refine HLi.out.mono ?_; rintro e x1 ⟨aL, cL, L, rfl, h1⟩)
      | fail)
    have HX := h1
    clear h1 HLi
    go_loopw [6, 7] (fun v i wr => ∃ (k : Nat) (a : Option Addr) (c : Nat) (VS : List Value) (C : List Cx), k ≤ L.length ∧ i = .int .i64 (k : Int) ∧ v = .slice a C.length c ∧ Hid (parF 0 [] (M.take k) = .ok C) ∧ Hid (PC wr x1.heap.size (.slice a C.length c) VS C) ∧ Hid (Below x1.heap.size x1 wr)) (fun _ i _ => L.length - (intOf i).toNat)
    case atStart => exact ⟨0, none, 0, [], [], Nat.zero_le _, rfl, rfl, hid0 rfl, hid0 (PC.nil _ _), hid0 (Below.refl _ _)⟩
    case round =>
      obtain ⟨k, a, c, VS, C, hk, rfl, rfl, HP, HPC, HB⟩ := hrel
      by_cases hlt : k < L.length
      · have hkI : (k : Int) < (L.length : Int) := by omega
        have hkI0 : (0 : Int) ≤ (k : Int) := by omega
        have hLm : L.length ≤ 4194401 := HX.out.2.2.2.1
        obtain ⟨b, off, rfl, hb1, hc1⟩ := HX.out.1.at' k hlt
        have hcell : wr.cell? ⟨b, off + k, none⟩ = some (.string L[k]) := (HB.out.cell (p := ⟨b, off + k, none⟩) hb1).trans hc1
        obtain ⟨hkM, hMk, hTs⟩ := HX.out.2.1 k hlt
        obtain ⟨T, hT⟩ : ∃ T, T = L[k] := ⟨_, rfl⟩
        rw [← hT] at hcell hMk hTs
        have hTl : T.data.toList.length = T.size := Array.length_toList
        have hCl : C.length ≤ 20000 := parF_len _ _ _ _ HP.out (Nat.zero_le _)
        obtain ⟨bs, hbs⟩ : ∃ bs, bs = bareOf T.data.toList := ⟨_, rfl⟩
        have hbl : bs.length ≤ 1048576 := by have := bareOf_len T.data.toList; rw [hbs]; omega
        have hstep : parF 0 [] (M.take (k + 1)) = stepP k C bs := by rw [parF_take M k hkM C HP.out, hMk, hbs]
        have hln := lnS_doc T.data.toList
        rw [← hbs] at hln
        have hPl : ∀ P B, lnS bs = some (P, B) → P.length ≤ 1000000000 := fun P B h => by
          rw [hbs] at h
          have := lnS_len _ _ _ h
          omega
        have HBr : Hid (∀ V, Calls Tryz.prog 18 #[.string T] V fun e w' => e = .returned (.string (rd bs)) ∧ w' = V) := hid0 (fun V => (refBare_any T (by omega) V).mono (by
          rintro e w' ⟨⟨t, rfl, h1⟩, rfl⟩
          rw [← hbs] at h1
          refine ⟨?_, rfl⟩
          rw [← h1, rd_toList]))
        have hbel : Below w.heap.size w wr := HX.out.2.2.2.2.trans (HB.out.mono HX.out.2.2.2.2.size)
        have HBel := hid0 hbel
        have HN : Hid (L.length = M.length) := hid0 HX.out.2.2.1
        clear hT hc1 hb1 hMk hTs hTl hbs hbel
        have hsd := refSaid_any bs (by omega)
        rw [← hln] at hsd
        clear hln
        by_cases hb0 : bs = []
        · have hE : (rd bs).toList.isEmpty = true := by rw [ByteArray.toList_eq, hb0]; rfl
          have HP2 : Hid (parF 0 [] (M.take (k + 1)) = .ok C) := hid0 (by rw [hstep, hb0, stepP_nil])
          clear hstep hb0 hsd hPl hbl HBad HOk
          generalize rd bs = RB at *
          go_wp2_with (first
            | (go_at_call 18; refine (HBr.out _).mono ?_; rintro e y1 ⟨rfl, rfl⟩)
            | fail)
          go_roundw
          case rel => exact ⟨k + 1, a, c, VS, C, by omega, by go_num, rfl, HP2, HPC, HB⟩
          case measure => simp [intOf]; omega
        · have hE : (rd bs).toList.isEmpty = false := by
            rw [ByteArray.toList_eq]
            cases hbx : bs with
            | nil => exact absurd hbx hb0
            | cons c r => rfl
          unfold stepP at hstep
          rw [if_neg hb0] at hstep
          cases hl : lnS bs with
          | none =>
            rw [hl] at hstep hsd
            have HSd : Hid (Calls Tryz.prog 19 #[.string (rd bs)] wr fun e w' => e = .returned (.tuple #[.agg #[.slice none 0 0, .slice none 0 0], .bool false]) ∧ Hid (Below wr.heap.size wr w')) := hid0 ((hsd wr).mono (fun e w' h => ⟨h.out.1, hid0 h.out.2⟩))
            have HBd : Hid (∀ w', Below w.heap.size w w' → DoP w s (.returned (.tuple #[.slice none 0 0, .int .i64 ((k : Int) + 1), .int .i64 2])) w') := hid0 (fun w' h => HBad.out (k + 1) 1 w' (parF_bad M (k + 1) _ _ hstep) h)
            clear hstep hb0 hsd hPl hbl HBad HOk hl
            generalize rd bs = RB at *
            go_wp2_with (first
              | (go_at_call 18; refine (HBr.out _).mono ?_; rintro e y1 ⟨rfl, rfl⟩)
              | (go_at_call 19; refine HSd.out.mono ?_; rintro e y2 ⟨rfl, h2⟩)
              | fail)
            go_ret3
            exact hid0 (HBd.out _ ((HBel.out.trans (h2.out.mono HBel.out.size)).alloc (Nat.le_trans HBel.out.size h2.out.size) _))
          | some y =>
            obtain ⟨P, B⟩ := y
            rw [hl] at hstep hsd
            have HSd : Hid (Calls Tryz.prog 19 #[.string (rd bs)] wr fun e w' => ∃ aP cP aB cB, e = .returned (.tuple #[.agg #[.slice aP P.length cP, .slice aB B.length cB], .bool true]) ∧ Hid ((((w'.alloc (.cells #[.slice aP P.length cP, .slice aB B.length cB] 50)).cell? ⟨w'.heap.size, 0, none⟩ = some (.slice aP P.length cP) ∧ Below x1.heap.size x1 (w'.alloc (.cells #[.slice aP P.length cP, .slice aB B.length cB] 50)))) ∧
               Calls Tryz.prog 20 #[.slice aP P.length cP] (w'.alloc (.cells #[.slice aP P.length cP, .slice aB B.length cB] 50)) fun e y3 => e = .returned (.bool (P.all scalarP)) ∧ y3.cell? ⟨w'.heap.size, 0, none⟩ = some (.slice aP P.length cP) ∧ y3.cell? ⟨w'.heap.size, 1, none⟩ = some (.slice aB B.length cB) ∧ Hid (Below x1.heap.size x1 y3) ∧
                 ∃ a9 c9 w9, (Builtin.append_ #[22, 22] 22 #[.slice a C.length c, .slice (some ⟨y3.heap.size, 0, none⟩) 1 1]).run Tryz.prog (y3.alloc (.cells #[.slice aP P.length cP, .slice aB B.length cB] 50)) = .ok (.slice a9 (C.length + 1) c9) w9 ∧
                   Hid (PC w9 x1.heap.size (.slice a9 (C.length + 1) c9) (VS ++ [.slice aP P.length cP, .slice aB B.length cB]) (C ++ [(P, B)]) ∧ Below x1.heap.size x1 w9))) := hid0 ((hsd wr).mono (fun e w' h => by
              obtain ⟨vP, vB, rfl, h1, h2, h3, h4⟩ := h.out
              obtain ⟨aP, cP, rfl⟩ := own_slC h1
              obtain ⟨aB, cB, rfl⟩ := own_slC h2
              exact ⟨aP, cP, aB, cB, rfl, hid0 (said_step HB.out HPC.out hCl h1 h2 h3 h4 (hPl P B hl))⟩))
            cases hall : P.all scalarP with
            | false =>
              simp only [hall] at HSd
              have hst2 : parF 0 [] (M.take (k + 1)) = .bad (k + 1) 0 := by rw [hstep]; simp [hall]
              have HBd : Hid (∀ w', Below x1.heap.size x1 w' → DoP w s (.returned (.tuple #[.slice none 0 0, .int .i64 ((k : Int) + 1), .int .i64 1])) w') := hid0 (fun w' h => HBad.out (k + 1) 0 w' (parF_bad M (k + 1) _ _ hst2) (HX.out.2.2.2.2.trans (h.mono HX.out.2.2.2.2.size)))
              clear hstep hb0 hsd hPl hbl HBad HOk hl hst2 hall
              generalize rd bs = RB at *
              go_wp2_with (first
                | (go_at_call 18; refine (HBr.out _).mono ?_; rintro e y1 ⟨rfl, rfl⟩)
                | (go_at_call 19; refine HSd.out.mono ?_; rintro e y2 ⟨aP, cP, aB, cB, rfl, h2⟩; have e0 := h2.out.1.1)
                | (go_at_call 20; refine h2.out.2.mono ?_; rintro e y3 ⟨rfl, e1, e2, h3, _⟩)
                | fail)
              go_ret3
              exact hid0 (HBd.out _ h3.out)
            | true =>
              simp only [hall] at HSd
              by_cases h20 : C.length = 20000
              · have h20I : (C.length : Int) ≥ 20000 := by omega
                have hst2 : parF 0 [] (M.take (k + 1)) = .bad (k + 1) 2 := by rw [hstep]; simp [hall, h20]
                have HBd : Hid (∀ w', Below x1.heap.size x1 w' → DoP w s (.returned (.tuple #[.slice none 0 0, .int .i64 ((k : Int) + 1), .int .i64 3])) w') := hid0 (fun w' h => HBad.out (k + 1) 2 w' (parF_bad M (k + 1) _ _ hst2) (HX.out.2.2.2.2.trans (h.mono HX.out.2.2.2.2.size)))
                clear hstep hb0 hsd hPl hbl HBad HOk hl hst2 hall h20
                generalize rd bs = RB at *
                go_wp2_with (first
                  | (go_at_call 18; refine (HBr.out _).mono ?_; rintro e y1 ⟨rfl, rfl⟩)
                  | (go_at_call 19; refine HSd.out.mono ?_; rintro e y2 ⟨aP, cP, aB, cB, rfl, h2⟩; have e0 := h2.out.1.1)
                  | (go_at_call 20; refine h2.out.2.mono ?_; rintro e y3 ⟨rfl, e1, e2, h3, _⟩)
                  | fail)
                go_ret3
                exact hid0 (HBd.out _ h3.out)
              · have h20I : ¬ (C.length : Int) ≥ 20000 := by omega
                have HP2 : Hid (parF 0 [] (M.take (k + 1)) = .ok (C ++ [(P, B)])) := hid0 (by rw [hstep]; simp [hall, h20])
                clear hstep hb0 hsd hPl hbl HBad HOk hl hall h20
                generalize rd bs = RB at *
                go_wp2_with (first
                  | (go_at_call 18; refine (HBr.out _).mono ?_; rintro e y1 ⟨rfl, rfl⟩)
                  | (go_at_call 19; refine HSd.out.mono ?_; rintro e y2 ⟨aP, cP, aB, cB, rfl, h2⟩; have e0 := h2.out.1.1)
                  | (go_at_call 20; refine h2.out.2.mono ?_; rintro e y3 ⟨rfl, e1, e2, h3, a9, c9, w9, hr9, h9⟩)
                  | (at_builtin; refine wpList_run rfl _ _ 22 rfl _ _ rfl rfl hr9 ?_; clear hr9)
                  | fail)
                go_roundw
                case rel => exact ⟨k + 1, a9, c9, _, C ++ [(P, B)], by omega, by go_num, by rw [List.length_append, List.length_singleton], HP2, hid0 (by rw [List.length_append, List.length_singleton]; exact h9.out.1), hid0 h9.out.2⟩
                case measure => simp [intOf]; omega
      · have hkI : ¬ (k : Int) < (L.length : Int) := by omega
        have HF : Hid (parF 0 [] M = .ok C) := hid0 (by rw [← HP.out, List.take_of_length_le (by have := HX.out.2.2.1; omega)])
        go_wp2
        go_ret3
        exact hid0 (HOk.out _ VS C _ HF.out (HPC.out.lower HX.out.2.2.2.2.size) (HX.out.2.2.2.2.trans (HB.out.mono HX.out.2.2.2.2.size)))
end Go.Proofs.YtcbepmjojppokaaGreatDoor
namespace Go.Proofs.YtcbepmjojppokaaGreatDoor.Tp
open Go.RowKit Go.Shelf
/-- The bytes of points and of the marks behind them. -/
def cost : List Int → Nat
  | [] => 0
  | x :: r => hxk x.toNat + 4 + cost r
theorem cost_tl (P B : List Int) : ∀ (r i : Nat), i + r = P.length → (tlF P B i r).length = cost (P.drop i) + 2
  | 0, i, h => by rw [tlF, mkF_len, List.drop_of_length_le (by omega)]; rfl
  | r + 1, i, h => by
    have hil : i < P.length := by omega
    have hg : P.getD i 0 = P[i] := by rw [List.getD_eq_getElem?_getD, List.getElem?_eq_getElem hil]; rfl
    have ih := cost_tl P B r (i + 1) (by omega)
    rw [tlF, hg, List.drop_eq_getElem_cons hil, cost]
    simp only [List.length_append, mkF_len, hx_len, List.length_singleton, ih]
    omega
theorem line_len (P B : List Int) : (shF P B P.length).length = cost P + 2 := by
  rw [sh_tl, cost_tl P B P.length 0 (by omega), List.drop_zero]
theorem next_drop (s : By) (h : restW s ≠ []) : (restW s).length + (nextW s).length + 1 ≤ s.length := by
  have h0 : nextW s ++ s.drop (nextW s).length = s := by
    have h1 : s.takeWhile notBl ++ s.dropWhile notBl = s := List.takeWhile_append_dropWhile
    have h2 : s.drop (nextW s).length = s.dropWhile notBl := by
      have h3 : (s.takeWhile notBl ++ s.dropWhile notBl).drop (nextW s).length = s.dropWhile notBl := List.drop_left
      rwa [h1] at h3
    rw [h2]
    exact h1
  have hl := congrArg List.length h0
  rw [List.length_append] at hl
  have h2 : s.drop (nextW s).length = s.dropWhile notBl := by
    have h1 : s.takeWhile notBl ++ s.dropWhile notBl = s := List.takeWhile_append_dropWhile
    have h3 : (s.takeWhile notBl ++ s.dropWhile notBl).drop (nextW s).length = s.dropWhile notBl := List.drop_left
    rwa [h1] at h3
  have hr : restW s = (s.drop (nextW s).length).dropWhile isBl := rfl
  cases hd : s.drop (nextW s).length with
  | nil => rw [hr, hd] at h; exact absurd rfl h
  | cons c r =>
    have hc : notBl c = false := by
      have h4 : s.dropWhile notBl = c :: r := by rw [← h2, hd]
      have h5 := List.head?_dropWhile_not notBl s
      rw [h4] at h5
      simpa using h5
    have hb : isBl c = true := by
      unfold notBl at hc
      cases hx : isBl c with
      | true => rfl
      | false => rw [hx] at hc; cases hc
    have h6 : (restW s).length ≤ r.length := by
      rw [hr, hd, List.dropWhile_cons, hb, if_pos rfl]
      exact (List.dropWhile_sublist isBl).length_le
    rw [hd, List.length_cons] at hl
    omega
theorem hxk_le (w : By) (h : wOk w = true) : hxk (hexN w) ≤ w.length := by
  unfold wOk at h
  simp only [Bool.and_eq_true, decide_eq_true_eq] at h
  obtain ⟨⟨h4, h6⟩, ha⟩ := h
  have hb := hexN_lt w (fun c hc => List.all_eq_true.1 ha c hc)
  unfold hxk
  split
  · exact h4
  · split
    · rcases Nat.lt_or_ge w.length 5 with h5 | h5
      · have e : w.length = 4 := by omega
        rw [e] at hb
        have : (16 : Nat) ^ 4 = 65536 := rfl
        omega
      · exact h5
    · rcases Nat.lt_or_ge w.length 6 with h5 | h5
      · have : w.length = 4 ∨ w.length = 5 := by omega
        rcases this with e | e
        · rw [e] at hb
          have : (16 : Nat) ^ 4 = 65536 := rfl
          omega
        · rw [e] at hb
          have : (16 : Nat) ^ 5 = 1048576 := rfl
          omega
      · exact h5
theorem rise_up {c c' : Int} (h : c ≤ c') : ∀ (B : List Int) (lo : Int), riseF c lo B = true → riseF c' lo B = true
  | [], _, _ => rfl
  | y :: B, lo, hr => by
    simp only [riseF, Bool.and_eq_true, decide_eq_true_eq] at hr ⊢
    exact ⟨⟨hr.1.1, by omega⟩, rise_up h B _ hr.2⟩
theorem rise_snoc (c : Int) : ∀ (B : List Int) (lo : Int), lo ≤ c → riseF c lo B = true → riseF (c + 1) lo (B ++ [c]) = true
  | [], lo, h, _ => by
    show riseF (c + 1) lo [c] = true
    simp only [riseF, Bool.and_eq_true, decide_eq_true_eq]
    exact ⟨⟨h, by omega⟩, trivial⟩
  | y :: B, lo, h, hr => by
    rw [List.cons_append]
    simp only [riseF, Bool.and_eq_true, decide_eq_true_eq] at hr ⊢
    exact ⟨⟨hr.1.1, by omega⟩, rise_snoc c B (y + 1) (by omega) hr.2⟩
theorem rise_cnt (c : Int) : ∀ (B : List Int) (lo : Int), lo ≤ c → riseF c lo B = true → (B.length : Int) ≤ c - lo
  | [], lo, h, _ => by simp; omega
  | y :: B, lo, h, hr => by
    simp only [riseF, Bool.and_eq_true, decide_eq_true_eq] at hr
    have := rise_cnt c B (y + 1) (by omega) hr.2
    rw [List.length_cons]
    omega
/-- What a line says costs no more than the line. -/
theorem rd_cost : ∀ (n : Nat) (s : By) (P B P' B' : List Int),
    (rdS n true s P B = some (P', B') → riseF (P.length : Int) 0 B = true → ∃ R, P' = P ++ R ∧ cost R + 2 ≤ s.length ∧ riseF ((P'.length : Int) + 1) 0 B' = true) ∧
    (rdS n false s P B = some (P', B') → riseF ((P.length : Int) + 1) 0 B = true → ∃ R, P' = P ++ R ∧ cost R ≤ s.length + 1 ∧ riseF ((P'.length : Int) + 1) 0 B' = true)
  | 0, s, P, B, P', B' => ⟨(fun h => by have h2 : none = some (P', B') := h; cases h2), (fun h => by have h2 : none = some (P', B') := h; cases h2)⟩
  | n + 1, s, P, B, P', B' => by
    refine ⟨fun h hr => ?_, fun h hr => ?_⟩
    · rw [rdS] at h
      have hB : riseF ((P.length : Int) + 1) 0 (if nextW s = yesW then B ++ [(P.length : Int)] else B) = true := by
        split
        · exact rise_snoc _ B 0 (by omega) hr
        · exact rise_up (by omega) B 0 hr
      split at h
      · rename_i hm
        have h2 : (nextW s).length = 2 := by rcases hm with e | e <;> rw [e] <;> rfl
        split at h
        · injection h with h
          injection h with e1 e2
          subst e1
          subst e2
          have := next_le s
          exact ⟨[], by simp, by rw [cost]; omega, hB⟩
        · rename_i hne
          obtain ⟨R, h3, h4, h5⟩ := (rd_cost n (restW s) P _ P' B').2 h hB
          have := next_drop s hne
          exact ⟨R, h3, by omega, h5⟩
      · cases h
    · rw [rdS] at h
      split at h
      · rename_i hw
        have h1 := hxk_le _ hw
        have hB : riseF (((P ++ [(hexN (nextW s) : Int)]).length : Nat) : Int) 0 B = true := by
          rw [List.length_append, List.length_singleton]
          exact hr
        obtain ⟨R, h3, h4, h5⟩ := (rd_cost n (restW s) _ B P' B').1 h hB
        have hne : restW s ≠ [] := fun e => by rw [e] at h4; simp at h4
        have := next_drop s hne
        refine ⟨(hexN (nextW s) : Int) :: R, by rw [h3, List.append_assoc]; rfl, ?_, h5⟩
        rw [cost, Int.toNat_natCast]
        omega
      · cases h
/-- The bytes of all lines, an end behind each. -/
def bytesC (C : List Cs) : Nat := (C.map fun x => (shF x.1 x.2 x.1.length).length + 1).sum
theorem bytes_snoc (C : List Cs) (x : Cs) : bytesC (C ++ [x]) = bytesC C + ((shF x.1 x.2 x.1.length).length + 1) := by
  unfold bytesC
  rw [List.map_append, List.sum_append]
  simp
theorem jn_bytes (C : List Cs) : ∀ i, i ≤ C.length → (jn C i).length + (if i = 0 then 0 else 1) = bytesC (C.take i)
  | 0, _ => rfl
  | i + 1, h => by
    have ih := jn_bytes C i (by omega)
    have hi : i < C.length := by omega
    rw [List.take_succ_eq_append_getElem hi, bytes_snoc, ← ih, jn, cP_at hi, cB_at hi]
    simp only [List.length_append]
    by_cases h0 : i = 0
    · subst h0
      simp [sep]
      omega
    · have : (sep i).length = 1 := by unfold sep; rw [if_neg h0]; rfl
      rw [this, if_neg h0, if_neg (by omega)]
      omega
theorem bare_le (l : By) : (bareOf l).length ≤ l.length := by
  unfold bareOf trimB
  rw [List.length_reverse]
  have h1 := (List.dropWhile_sublist isBl (l := ((l.takeWhile fun c => c != 35).dropWhile isBl).reverse)).length_le
  have h2 := (List.dropWhile_sublist isBl (l := l.takeWhile fun c => c != 35)).length_le
  have h3 := (List.takeWhile_sublist (fun c : UInt8 => c != 35) (l := l)).length_le
  rw [List.length_reverse] at h1
  omega
theorem chop_le (l : By) : (chopR l).length ≤ l.length := by unfold chopR; split <;> simp
/-- What is known of cases that were read. -/
structure RdC (C : List Cs) (n : Nat) : Prop where
  ok : okC C = true
  len : bytesC C ≤ n
theorem okC_snoc {C : List Cs} {x : Cs} (h : okC C = true) (hx : mayC x.1 x.2 = true) : okC (C ++ [x]) = true := by
  unfold okC at h ⊢
  rw [List.all_append, h]
  simp [hx]
theorem step_rd {k : Nat} {C C' : List Cs} {b : By} {n : Nat} (h : RdC C n) (hs : stepP k C b = .ok C') : RdC C' (n + b.length + 1) := by
  unfold stepP at hs
  split at hs
  · injection hs with hs
    subst hs
    exact ⟨h.ok, by have := h.len; omega⟩
  · cases hl : lnS b with
    | none => rw [hl] at hs; cases hs
    | some x =>
      obtain ⟨P, B⟩ := x
      rw [hl] at hs
      have hs2 : (if P.all scalarP = true then (if C.length = 20000 then PRes.bad (k + 1) 2 else .ok (C ++ [(P, B)])) else .bad (k + 1) 0) = .ok C' := hs
      split at hs2
      · rename_i hall
        split at hs2
        · cases hs2
        · injection hs2 with hs2
          subst hs2
          unfold lnS at hl
          obtain ⟨R, h1, h2, h3⟩ := (rd_cost _ b [] [] P B).1 hl rfl
          rw [List.nil_append] at h1
          subst h1
          refine ⟨okC_snoc h.ok (by unfold mayC; rw [hall, h3]; rfl), ?_⟩
          rw [bytes_snoc, line_len]
          have := h.len
          show bytesC C + (cost P + 2 + 1) ≤ _
          omega
      · cases hs2
theorem file_rd (s : By) : ∀ (now : By) (k n : Nat) (C C' : List Cs), (∀ c ∈ now, c ≠ 10) → RdC C n → parF k C ((rawGo now s).map bareN) = .ok C' → RdC C' (n + now.length + s.length + 1) := by
  induction s with
  | nil =>
    intro now k n C C' hn h hp
    rw [rawGo] at hp
    split at hp
    · have h2 : PRes.ok C = .ok C' := hp
      injection h2 with h2
      subst h2
      exact ⟨h.ok, by have := h.len; omega⟩
    · have h2 : (match stepP k C (bareN now) with | .ok C1 => parF (k + 1) C1 [] | .bad l i => .bad l i) = .ok C' := hp
      cases hs : stepP k C (bareN now) with
      | bad l i => rw [hs] at h2; cases h2
      | ok C1 =>
        rw [hs] at h2
        have h3 : PRes.ok C1 = .ok C' := h2
        injection h3 with h3
        subst h3
        have h4 := step_rd h hs
        rw [bareN_no now hn] at h4
        have := bare_le now
        exact ⟨h4.ok, by have := h4.len; simp; omega⟩
  | cons c r ih =>
    intro now k n C C' hn h hp
    rw [rawGo] at hp
    split at hp
    · have h2 : (match stepP k C (bareN (now ++ [10])) with | .ok C1 => parF (k + 1) C1 ((rawGo [] r).map bareN) | .bad l i => .bad l i) = .ok C' := hp
      cases hs : stepP k C (bareN (now ++ [10])) with
      | bad l i => rw [hs] at h2; cases h2
      | ok C1 =>
        rw [hs] at h2
        have h4 := step_rd h hs
        rw [bareN_end] at h4
        have h5 := bare_le (chopR now)
        have h6 := chop_le now
        have h7 := ih [] (k + 1) (n + now.length + 1) C1 C' (fun c hc => by cases hc) ⟨h4.ok, by have := h4.len; omega⟩ h2
        exact ⟨h7.ok, by have := h7.len; simp at this ⊢; omega⟩
    · rename_i hc
      have h7 := ih (now ++ [c]) k n C C' (fun x hx => by
        rcases List.mem_append.1 hx with hx | hx
        · exact hn x hx
        · rw [List.mem_singleton] at hx; rw [hx]; exact hc) h hp
      exact ⟨h7.ok, by have := h7.len; simp at this ⊢; omega⟩
/-- What is read is printed in no more bytes. -/
theorem read_short (s : By) (C : List Cs) (h : parF 0 [] ((rawL s).map bareN) = .ok C) : C.length ≤ 20000 ∧ okC C = true ∧ (jn C C.length).length ≤ s.length ∧ bytesC C ≤ s.length + 1 := by
  have h1 := parF_len _ _ _ _ h (Nat.zero_le _)
  have h2 := file_rd s [] 0 0 [] C (fun c hc => by cases hc) ⟨rfl, Nat.le_refl _⟩ h
  have h3 := jn_bytes C C.length (Nat.le_refl _)
  rw [List.take_length] at h3
  have h4 := h2.len
  simp at h4
  refine ⟨h1, h2.ok, ?_, h4⟩
  split at h3
  · rename_i h0
    rw [h0]
    exact Nat.zero_le _
  · omega
theorem bytes_at {C : List Cs} {x : Cs} (h : x ∈ C) : cost x.1 + 3 ≤ bytesC C := by
  induction C with
  | nil => cases h
  | cons y r ih =>
    have e : bytesC (y :: r) = ((shF y.1 y.2 y.1.length).length + 1) + bytesC r := by unfold bytesC; rw [List.map_cons, List.sum_cons]
    rw [e]
    rcases List.mem_cons.1 h with rfl | h
    · rw [line_len]; omega
    · have := ih h; omega
theorem cost_len : ∀ (P : List Int), 4 * P.length ≤ cost P
  | [] => Nat.le_refl _
  | x :: r => by
    have := cost_len r
    rw [cost, List.length_cons]
    omega
/-- The sizes of cases that were read. -/
theorem read_sizes (s : By) (C : List Cs) (hs : s.length ≤ 1048576) (h : parF 0 [] ((rawL s).map bareN) = .ok C) : ∀ x ∈ C, x.1.length ≤ 1048577 ∧ x.2.length ≤ 1048578 := by
  obtain ⟨_, h2, _, h4⟩ := read_short s C h
  intro x hx
  have h5 := bytes_at hx
  have h6 := cost_len x.1
  have h7 := List.all_eq_true.1 h2 x hx
  unfold mayC at h7
  rw [Bool.and_eq_true] at h7
  have h8 := rise_cnt _ x.2 0 (by omega) h7.2
  omega
theorem parF_pos (L : List By) : ∀ (k : Nat) (C : List Cx) (l i : Nat), parF k C L = .bad l i → 0 < l := by
  induction L with
  | nil => intro k C l i h; cases h
  | cons b r ih =>
    intro k C l i h
    have h2 : (match stepP k C b with | .ok C1 => parF (k + 1) C1 r | .bad l i => .bad l i) = .bad l i := h
    cases hs : stepP k C b with
    | ok C1 => rw [hs] at h2; exact ih _ _ _ _ h2
    | bad l' i' =>
      rw [hs] at h2
      have h3 : PRes.bad l' i' = .bad l i := h2
      injection h3 with h3 _
      subst h3
      unfold stepP at hs
      split at hs
      · cases hs
      · split at hs
        · injection hs with hs _; omega
        · split at hs
          · split at hs
            · injection hs with hs _; omega
            · cases hs
          · injection hs with hs _; omega
end Go.Proofs.YtcbepmjojppokaaGreatDoor.Tp
namespace Go.Proofs.YtcbepmjojppokaaGreatDoor.Tp
open Go.RowKit Go.Shelf
/-- What the world holds. -/
structure EnvT (w : World) (A : Nat → Addr) : Prop where
  s : Sents w A
  y : Syn w
  t : ErrTy w
  d : TabAt 20 Lib.deBruijn64tab w
theorem EnvT.below {w w' : World} {A : Nat → Addr} (h : EnvT w A) (hb : Below w.heap.size w w') : EnvT w' A :=
  ⟨h.s.below hb, Syn.below h.y hb, h.t.below hb, fun i hi => (hb.cell (p := ⟨20, i, none⟩) (World.block_lt_of_cell? w _ (h.d i hi))).trans (h.d i hi)⟩
theorem pc_csa {W : World} {lo : Nat} {v : Value} {VS : List Value} {C : List Cx} (h : PC W lo v VS C) : ∃ a c, v = .slice a C.length c ∧ CsA W a C := by
  obtain ⟨a, c, rfl⟩ := own_slC h.own
  refine ⟨a, c, rfl, ⟨fun k hk => ?_⟩⟩
  rcases h.own.2 with ⟨e1, e2⟩ | ⟨g, cap, cur, e1, hg, hr, hc, _⟩
  · rw [e2] at hk; omega
  · injection e1 with e1 _ _
    subst e1
    obtain ⟨vP, vB, q1, q2, q3, q4⟩ := h.at' k hk
    obtain ⟨aP, cP, rfl, hP⟩ := OwnI.ia q3
    obtain ⟨aB, cB, rfl, hB⟩ := OwnI.ia q4
    have hl : VS.length = C.length * 2 := h.own.1
    have c0 := World.ownsRow.cellAt h.own (k * 2) (by omega)
    have c1 := World.ownsRow.cellAt h.own (k * 2 + 1) (by omega)
    refine ⟨g, 0, aP, aB, cP, cB, rfl, (World.ownsRow.lt h.own g rfl).2, ?_, ?_, hP, hB⟩
    · rw [Nat.zero_add, c0, q1]
    · rw [Nat.zero_add, c1, q2]
/-- The line that known reads. -/
def kT : By := [195, 183, 32, 48, 48, 52, 49, 32, 195, 151, 32, 32, 48, 51, 48, 56, 32, 195, 183, 32, 35, 32, 120]
def kC : List Cs := [([65, 776], [0, 2])]
theorem kT_read : parF 0 [] ((rawL kT).map bareN) = .ok kC := by kernel_rfl
theorem kC_say : sayN kC = 0 := by kernel_rfl
theorem kC_txt : sayT kC = [195, 183, 32, 48, 48, 52, 49, 32, 195, 151, 32, 48, 51, 48, 56, 32, 195, 183] := by kernel_rfl
set_option maxRecDepth 10000 in
set_option maxHeartbeats 1600000 in
theorem known_any (A : Nat → Addr) (w : World) (hE : EnvT w A) : Calls Tryz.prog 13 #[] w fun e w' => e = .returned (.bool true) ∧ Hid (Below w.heap.size w w') := by
  have HP : Hid (Calls Tryz.prog 6 #[.string ⟨#[195, 183, 32, 48, 48, 52, 49, 32, 195, 151, 32, 32, 48, 51, 48, 56, 32, 195, 183, 32, 35, 32, 120]⟩] w fun e w' => ∃ (g : Nat) (c cB : Nat) (aB : Option Addr), e = .returned (.tuple #[.slice (some ⟨g, 0, none⟩) 1 c, .int .i64 0, .nilIface]) ∧ w'.cell? ⟨g, 1, none⟩ = some (.slice aB 2 cB) ∧ Hid (CsA w' (some ⟨g, 0, none⟩) kC ∧ Below w.heap.size w w')) := hid0 ((parse_any kT A w hE.s hE.y hE.t).mono (fun e w' h => by
    have h1 := h.out
    unfold GoP at h1
    rw [if_neg (by decide), kT_read] at h1
    obtain ⟨v, VS, rfl, h2, h3⟩ := h1
    obtain ⟨a, c, rfl, h4⟩ := pc_csa h2
    obtain ⟨b, off, aP, aB, cP, cB, rfl, _, _, k1, _, _⟩ := h4.at' 0 (by decide)
    have hoff : off = 0 := by
      rcases h2.own.2 with ⟨e1, _⟩ | ⟨g, cap, cur, e1, _⟩
      · cases e1
      · injection e1 with e1
        injection e1 with e1
        injection e1
    subst hoff
    refine ⟨b, c, cB, aB, rfl, ?_, hid0 ⟨h4, h3⟩⟩
    have k2 : w'.cell? ⟨b, 0 + 0 * 2 + 1, none⟩ = some (.slice aB 2 cB) := k1
    exact k2))
  have HPr : Hid (∀ (g c : Nat) (V : World), Below w.heap.size w V → CsA V (some ⟨g, 0, none⟩) kC → Calls Tryz.prog 14 #[.slice (some ⟨g, 0, none⟩) 1 c] V fun e w' => e = .returned (.tuple #[.string ⟨#[195, 183, 32, 48, 48, 52, 49, 32, 195, 151, 32, 48, 51, 48, 56, 32, 195, 183]⟩, .nilIface]) ∧ Hid (Below V.heap.size V w')) := hid0 (fun g c V hV hC => by
    have hE2 := hE.below hV
    refine (print_any kC (some ⟨g, 0, none⟩) c A V (by decide) (by decide) hC hE2.d hE2.s).mono ?_
    rintro e w' ⟨rfl, h⟩
    refine ⟨?_, h⟩
    rw [kC_say, kC_txt]
    rfl)
  clear hE
  go_enter Tryz.func13, Tryz.ntmps13
  go_wp2_with (first
    | (go_at_call 6; refine HP.out.mono ?_; rintro e x1 ⟨g, c, cB, aB, rfl, k1, h1⟩)
    | (go_at_call 14; refine (HPr.out g c x1 h1.out.2 h1.out.1).mono ?_; rintro e x2 ⟨rfl, h2⟩; have k2 : x2.cell? ⟨g, 1, none⟩ = some (.slice aB 2 cB) := (h2.out.cell (p := ⟨g, 1, none⟩) (World.block_lt_of_cell? x1 _ k1)).trans k1)
    | fail)
  go_ret
  exact ⟨rfl, hid0 (h1.out.2.trans (h2.out.mono h1.out.2.size))⟩
end Go.Proofs.YtcbepmjojppokaaGreatDoor.Tp
namespace Go.Proofs.YtcbepmjojppokaaGreatDoor.Tp
open Go.RowKit Go.Shelf Go.Lib
theorem lowB {B C : Nat} {w w' : World} (h : Below B w w') (hc : C ≤ B) : Below C w w' := ⟨h.os, h.tape, h.output, h.size, fun k hk => h.block k (by omega)⟩
/-- The mark of the j-th list. -/
def mkV (j : Nat) : Value := .int .i64 (-200 - (j : Int))
/-- The first n records have the mark of the j-th list. -/
def MkR (s off j n : Nat) (xs : List Value) : Prop := ∀ k, k < n → xs[k * s + off]? = some (mkV j)
def Aprt (vs : List (Value × Nat)) : Prop := ∀ j j' (h : j < vs.length) (h' : j' < vs.length), j ≠ j' → ∀ g, vs[j].1.ownBlock = some g → vs[j'].1.ownBlock ≠ some g
/-- All memory but that of the lists is as it was. -/
structure Kp (w0 wr : World) (lo : Nat) (vs : List (Value × Nat)) : Prop where
  sz : w0.heap.size ≤ wr.heap.size
  kp : ∀ k, k < w0.heap.size → (∀ j (h : j < vs.length), vs[j].1.ownBlock ≠ some k) → wr.heap[k]? = w0.heap[k]?
  bel : Below lo w0 wr
theorem Kp.refl (w : World) (lo : Nat) (vs : List (Value × Nat)) : Kp w w lo vs := ⟨Nat.le_refl _, fun _ _ _ => rfl, Below.refl _ _⟩
theorem Kp.later {w0 wr wz : World} {lo : Nat} {vs : List (Value × Nat)} (h : Kp w0 wr lo vs) (hb : Below wr.heap.size wr wz) (hl : lo ≤ w0.heap.size) : Kp w0 wz lo vs :=
  ⟨Nat.le_trans h.sz hb.size, fun k h1 h2 => (hb.block k (Nat.lt_of_lt_of_le h1 h.sz)).trans (h.kp k h1 h2), h.bel.trans (lowB hb (Nat.le_trans hl h.sz))⟩
/-- Full up to the i-th, of that one the first kk. -/
structure Fl (w0 wr : World) (lo t s off : Nat) (vs : List (Value × Nat)) (i kk : Nat) : Prop where
  own : ∀ j (h : j < vs.length), ∃ xs, wr.ownsRow lo t s vs[j].1 vs[j].2 xs ∧ (j < i → MkR s off j vs[j].2 xs) ∧ (j = i → MkR s off j kk xs)
  kp : Kp w0 wr lo vs
theorem Fl.later {w0 wr wz : World} {lo t s off : Nat} {vs : List (Value × Nat)} {i kk : Nat} (h : Fl w0 wr lo t s off vs i kk) (hb : Below wr.heap.size wr wz) (hl : lo ≤ w0.heap.size) : Fl w0 wz lo t s off vs i kk :=
  ⟨fun j hj => by
    obtain ⟨xs, h1, h2, h3⟩ := h.own j hj
    exact ⟨xs, own_blk h1 (fun k hk => hb.block k (World.ownsRow.lt h1 k hk).2), h2, h3⟩, h.kp.later hb hl⟩
theorem Fl.at {w0 wr : World} {lo t s off : Nat} {vs : List (Value × Nat)} {i kk : Nat} (h : Fl w0 wr lo t s off vs i kk) (hi : i < vs.length) (hk : 0 < vs[i].2) :
    ∃ g cap, vs[i].1 = .slice (some ⟨g, 0, none⟩) vs[i].2 cap ∧ lo ≤ g ∧ g < wr.heap.size ∧ ∀ p, p < vs[i].2 * s → (∃ u, wr.cell? ⟨g, p, none⟩ = some u) ∧ wr.frozen? ⟨g, p, none⟩ = false := by
  obtain ⟨xs, h1, _, _⟩ := h.own i hi
  obtain ⟨g, cap, e, h2, h3, _⟩ := own_form h1 hk
  rw [e] at h1
  refine ⟨g, cap, e, h2, h3, fun p hp => ⟨⟨xs[p]'(by rw [h1.1]; exact hp), ?_⟩, World.ownsRow.frozenAt h1 p⟩⟩
  rw [World.ownsRow.cellAt h1 p hp, List.getElem?_eq_getElem]
/-- One cell of the i-th is written. -/
theorem Fl.set {w0 wr : World} {lo t s off : Nat} {vs : List (Value × Nat)} {i kk kk' : Nat} (h : Fl w0 wr lo t s off vs i kk) (ha : Aprt vs) (hi : i < vs.length) {g cap : Nat} (hv : vs[i].1 = .slice (some ⟨g, 0, none⟩) vs[i].2 cap) (p : Nat) (u : Value)
    (hm : ∀ xs, xs.length = vs[i].2 * s → MkR s off i kk xs → MkR s off i kk' (xs.set p u)) : Fl w0 (wr.setCell ⟨g, p, none⟩ u) lo t s off vs i kk' := by
  have hgi : vs[i].1.ownBlock = some g := by rw [hv]; rfl
  have hlo : lo ≤ g := by
    obtain ⟨xs, h1, _, _⟩ := h.own i hi
    exact (World.ownsRow.lt h1 g hgi).1
  refine ⟨fun j hj => ?_, ⟨?_, fun k h1 h2 => ?_, h.kp.bel.setCell (p := ⟨g, p, none⟩) hlo u⟩⟩
  · obtain ⟨xs, h1, h2, h3⟩ := h.own j hj
    by_cases e : j = i
    · subst e
      have h1' := h1
      rw [hv] at h1'
      have h4 := (World.ownsRow.stored h1' p u).1
      rw [← hv] at h4
      exact ⟨xs.set p u, h4, fun hlt => absurd hlt (Nat.lt_irrefl _), fun _ => hm xs h1.1 (h3 rfl)⟩
    · exact ⟨xs, own_blk h1 (fun k hk => Below.heap_setCell _ _ _ k (fun e2 => ha j i hj hi e k hk (by simp only at e2; rw [e2]; exact hgi))), h2, fun e2 => absurd e2 e⟩
  · have := h.kp.sz
    simp
    omega
  · exact (Below.heap_setCell _ _ _ k (fun e => h2 i hi (by simp only at e; rw [e]; exact hgi))).trans (h.kp.kp k h1 h2)
theorem Fl.poke {w0 wr : World} {lo t s off : Nat} {vs : List (Value × Nat)} {i kk : Nat} (h : Fl w0 wr lo t s off vs i kk) (ha : Aprt vs) (hi : i < vs.length) {g cap : Nat} (hv : vs[i].1 = .slice (some ⟨g, 0, none⟩) vs[i].2 cap) (p : Nat) (u : Value)
    (hp : ∀ k, k < kk → p ≠ k * s + off) : Fl w0 (wr.setCell ⟨g, p, none⟩ u) lo t s off vs i kk :=
  h.set ha hi hv p u (fun xs _ hm k hk => by rw [List.getElem?_set_ne (hp k hk)]; exact hm k hk)
theorem Fl.mark {w0 wr : World} {lo t s off : Nat} {vs : List (Value × Nat)} {i kk : Nat} (h : Fl w0 wr lo t s off vs i kk) (ha : Aprt vs) (hi : i < vs.length) {g cap : Nat} (hv : vs[i].1 = .slice (some ⟨g, 0, none⟩) vs[i].2 cap) (hk : kk < vs[i].2) (ho : off < s) :
    Fl w0 (wr.setCell ⟨g, kk * s + off, none⟩ (mkV i)) lo t s off vs i (kk + 1) :=
  h.set ha hi hv _ _ (fun xs hl hm k hkk => by
    have hlt : kk * s + off < xs.length := by
      rw [hl]
      have : (kk + 1) * s ≤ vs[i].2 * s := Nat.mul_le_mul_right s hk
      rw [Nat.add_mul, Nat.one_mul] at this
      omega
    by_cases e : k = kk
    · subst e
      rw [List.getElem?_set_self hlt]
    · rw [List.getElem?_set_ne]
      · exact hm k (by omega)
      · intro e2
        have h1 : kk * s = k * s := by omega
        exact e (Nat.eq_of_mul_eq_mul_right (by omega) h1.symm))
theorem Fl.next {w0 wr : World} {lo t s off : Nat} {vs : List (Value × Nat)} {i kk : Nat} (h : Fl w0 wr lo t s off vs i kk) (hk : ∀ (hi : i < vs.length), vs[i].2 ≤ kk) : Fl w0 wr lo t s off vs (i + 1) 0 :=
  ⟨fun j hj => by
    obtain ⟨xs, h1, h2, h3⟩ := h.own j hj
    refine ⟨xs, h1, fun hlt => ?_, fun _ k hk => absurd hk (Nat.not_lt_zero _)⟩
    by_cases e : j = i
    · subst e
      exact fun k hkk => h3 rfl k (Nat.lt_of_lt_of_le hkk (hk hj))
    · exact h2 (by omega), h.kp⟩
/-- All read as they were marked; those from i on are still their own. -/
structure Gz (w0 wr : World) (lo t s off : Nat) (vs : List (Value × Nat)) (i : Nat) : Prop where
  own : ∀ j (h : j < vs.length), i ≤ j → ∃ xs, wr.ownsRow lo t s vs[j].1 vs[j].2 xs
  rd : ∀ j (h : j < vs.length), ∀ k, k < vs[j].2 → ∃ g cap, vs[j].1 = .slice (some ⟨g, 0, none⟩) vs[j].2 cap ∧ wr.cell? ⟨g, k * s + off, none⟩ = some (mkV j)
  kp : Kp w0 wr lo vs
theorem Fl.gz {w0 wr : World} {lo t s off : Nat} {vs : List (Value × Nat)} {kk : Nat} (h : Fl w0 wr lo t s off vs vs.length kk) (ho : off < s) : Gz w0 wr lo t s off vs 0 :=
  ⟨fun j hj _ => by
    obtain ⟨xs, h1, _, _⟩ := h.own j hj
    exact ⟨xs, h1⟩, fun j hj k hk => by
    obtain ⟨xs, h1, h2, _⟩ := h.own j hj
    obtain ⟨g, cap, e, _⟩ := own_form h1 (by omega)
    refine ⟨g, cap, e, ?_⟩
    rw [e] at h1
    have hlt : k * s + off < vs[j].2 * s := by
      have : (k + 1) * s ≤ vs[j].2 * s := Nat.mul_le_mul_right s hk
      rw [Nat.add_mul, Nat.one_mul] at this
      omega
    rw [World.ownsRow.cellAt h1 _ hlt]
    exact h2 hj k hk, h.kp⟩
/-- The i-th while it grows. -/
structure Gx (w0 wr : World) (lo t s off : Nat) (vs : List (Value × Nat)) (i n m : Nat) (lv : Value) : Prop where
  gz : Gz w0 wr lo t s off vs (i + 1)
  own : ∃ xs, wr.ownsRow lo t s lv (n + m) xs
  aw : ∀ j (h : j < vs.length), j ≠ i → ∀ g, lv.ownBlock = some g → vs[j].1.ownBlock ≠ some g
  nw : ∀ g, lv.ownBlock = some g → (∃ h : i < vs.length, vs[i].1.ownBlock = some g) ∨ w0.heap.size ≤ g
  nn : ∀ h : i < vs.length, vs[i].2 = n
theorem Gz.start {w0 wr : World} {lo t s off : Nat} {vs : List (Value × Nat)} {i : Nat} (h : Gz w0 wr lo t s off vs i) (ha : Aprt vs) (hi : i < vs.length) : Gx w0 wr lo t s off vs i vs[i].2 0 vs[i].1 :=
  ⟨⟨fun j hj hl => h.own j hj (by omega), h.rd, h.kp⟩, h.own i hi (Nat.le_refl _), fun j hj hne g hg => ha i j hi hj (fun e => hne e.symm) g hg, fun g hg => .inl ⟨hi, hg⟩, fun _ => rfl⟩
theorem Gx.step {w0 wr w1 : World} {lo t s off : Nat} {vs : List (Value × Nat)} {i n m : Nat} {lv lv' : Value} {o : Obj} {xs' : List Value} (h : Gx w0 wr lo t s off vs i n m lv) (ho : off < s) (hl : lo ≤ w0.heap.size) (hv0 : ∀ j (h : j < vs.length) g, vs[j].1.ownBlock = some g → g < w0.heap.size)
    (hown : w1.ownsRow lo t s lv' (n + m + 1) xs') (hg : (wr.alloc o).grownBy w1 lv.ownBlock) (hat : lv'.ownBlock = lv.ownBlock ∨ lv'.ownBlock = some (wr.alloc o).heap.size)
    (hfr : ∀ g j u, lv.ownBlock = some g → j < (n + m) * s → (wr.alloc o).cell? ⟨g, j, none⟩ = some u → w1.cell? ⟨g, j, none⟩ = some u) : Gx w0 w1 lo t s off vs i n (m + 1) lv' := by
  have hsz : (wr.alloc o).heap.size = wr.heap.size + 1 := by simp
  have hs0 := h.gz.kp.sz
  have hlow : ∀ g, lv.ownBlock = some g → lo ≤ g := fun g hg => by
    obtain ⟨xs, h1⟩ := h.own
    exact (World.ownsRow.lt h1 g hg).1
  have hb : ∀ k, k < wr.heap.size → lv.ownBlock ≠ some k → w1.heap[k]? = wr.heap[k]? := fun k h1 h2 => (hg.block k (by omega) (fun e => h2 e.symm)).trans (Below.heap_alloc wr o k h1)
  refine ⟨⟨fun j hj hji => ?_, fun j hj k hk => ?_, ⟨?_, fun k h1 h2 => ?_, ?_⟩⟩, ⟨xs', hown⟩, fun j hj hne g hgg => ?_, fun g hgg => ?_, h.nn⟩
  · obtain ⟨xs, h1⟩ := h.gz.own j hj hji
    exact ⟨xs, own_blk h1 (fun k hk => hb k (World.ownsRow.lt h1 k hk).2 (fun e => h.aw j hj (by omega) k e hk))⟩
  · obtain ⟨g, cap, e, hc⟩ := h.gz.rd j hj k hk
    refine ⟨g, cap, e, ?_⟩
    have hgl : g < wr.heap.size := World.block_lt_of_cell? wr _ hc
    have hc2 : (wr.alloc o).cell? ⟨g, k * s + off, none⟩ = some (mkV j) := (World.cell?_of_block (a := ⟨g, k * s + off, none⟩) (Below.heap_alloc wr o g hgl)).trans hc
    by_cases hlg : lv.ownBlock = some g
    · have hji : j = i := by
        by_cases e2 : j = i
        · exact e2
        · exact absurd (by rw [e]; rfl) (h.aw j hj e2 g hlg)
      subst hji
      have hn := h.nn hj
      refine hfr g _ _ hlg ?_ hc2
      have h1 : (k + 1) * s ≤ (n + m) * s := Nat.mul_le_mul_right s (by omega)
      rw [Nat.add_mul, Nat.one_mul] at h1
      omega
    · exact (World.cell?_of_block (a := ⟨g, k * s + off, none⟩) (hb g hgl hlg)).trans hc
  · have := hg.size
    omega
  · refine (hb k (by omega) (fun e => ?_)).trans (h.gz.kp.kp k h1 h2)
    rcases h.nw k e with ⟨hi, h3⟩ | h3
    · exact h2 i hi h3
    · omega
  · exact (h.gz.kp.bel.alloc (by omega) o).grown hg (by omega) (fun k hk => hlow k hk)
  · rcases hat with e | e
    · rw [e] at hgg; exact h.aw j hj hne g hgg
    · rw [e, hsz] at hgg
      injection hgg with hgg
      intro e2
      have := hv0 j hj g e2
      omega
  · rcases hat with e | e
    · rw [e] at hgg; exact h.nw g hgg
    · rw [e, hsz] at hgg
      injection hgg with hgg
      exact .inr (by omega)
theorem own_typed {W : World} {lo t s n : Nat} {v : Value} {xs : List Value} (h : W.ownsRow lo t s v n xs) {g : Nat} (e : v.ownBlock = some g) : ∃ cs, W.heap[g]? = some (.cells cs t (0, 0)) := by
  rcases h.2 with ⟨e1, _⟩ | ⟨b, cap, cur, e1, _, hr, _⟩
  · rw [e1] at e; cases e
  · rw [e1] at e
    injection e with e
    subst e
    exact ⟨cur, hr⟩
theorem typed_ne {W : World} {g g' : Nat} {t t' : TypeId} {cs cs' : Array Value} (h : W.heap[g]? = some (.cells cs t (0, 0))) (h' : W.heap[g']? = some (.cells cs' t' (0, 0))) (ht : t ≠ t') : g ≠ g' := fun e => by
  subst e
  rw [h] at h'
  injection h' with h'
  injection h' with _ h'
  exact ht h'
/-- The lists that are grown already: where each lies, what stands in it. -/
def DnJ (w0 wr : World) (vs : List (Value × Nat)) (i : Nat) (ms : List Value) (ob : Option Nat) : Prop :=
  ∀ j (h : j < vs.length), j < i → ∃ g c, ms[j]? = some (.slice (some ⟨g, 0, none⟩) (vs[j].2 + 64) c) ∧ (vs[j].1.ownBlock = some g ∨ w0.heap.size ≤ g) ∧ (∀ k, k < vs[j].2 + 64 → wr.cell? ⟨g, k, none⟩ = some (mkV j)) ∧ (∃ cs, wr.heap[g]? = some (.cells cs 3 (0, 0))) ∧ ob ≠ some g
/-- The list of the grown lists. -/
structure Gm (w0 wr : World) (lo : Nat) (vs : List (Value × Nat)) (i : Nat) (mv : Value) (ms : List Value) : Prop where
  gz : Gz w0 wr lo 3 1 0 vs i
  row : wr.ownsRow lo 48 1 mv i ms
  mnew : ∀ g, mv.ownBlock = some g → w0.heap.size ≤ g
  dn : DnJ w0 wr vs i ms none
/-- One list while it grows. -/
structure Gy (w0 wr : World) (lo : Nat) (vs : List (Value × Nat)) (i n m : Nat) (lv mv : Value) (ms : List Value) : Prop where
  gx : Gx w0 wr lo 3 1 0 vs i n m lv
  lvm : ∃ xs, wr.ownsRow lo 3 1 lv (n + m) xs ∧ ∀ k, k < n + m → xs[k]? = some (mkV i)
  row : wr.ownsRow lo 48 1 mv i ms
  mnew : ∀ g, mv.ownBlock = some g → w0.heap.size ≤ g
  dn : DnJ w0 wr vs i ms lv.ownBlock
theorem intsInt : (48 : TypeId) ≠ 3 := by decide
theorem Gm.start {w0 wr : World} {lo : Nat} {vs : List (Value × Nat)} {i : Nat} {mv : Value} {ms : List Value} (h : Gm w0 wr lo vs i mv ms) (ha : Aprt vs) (hi : i < vs.length) (hv0 : ∀ j (h : j < vs.length) g, vs[j].1.ownBlock = some g → g < w0.heap.size) : Gy w0 wr lo vs i vs[i].2 0 vs[i].1 mv ms := by
  obtain ⟨xs, hx⟩ := h.gz.own i hi (Nat.le_refl _)
  refine ⟨h.gz.start ha hi, ⟨xs, hx, fun k hk => ?_⟩, h.row, h.mnew, fun j hj hji => ?_⟩
  · obtain ⟨g, cap, e, hc⟩ := h.gz.rd i hi k hk
    rw [e] at hx
    have := World.ownsRow.cellAt hx k (by omega)
    rw [Nat.mul_one, Nat.add_zero] at hc
    rw [← this, hc]
  · obtain ⟨g, c, h1, h2, h3, h4, _⟩ := h.dn j hj hji
    refine ⟨g, c, h1, h2, h3, h4, fun e => ?_⟩
    rcases h2 with h2 | h2
    · exact ha j i hj hi (by omega) g h2 e
    · have := hv0 i hi g e; omega
theorem Gy.step {w0 wr w1 : World} {lo : Nat} {vs : List (Value × Nat)} {i n m : Nat} {lv lv' mv : Value} {ms : List Value} {o : Obj} (h : Gy w0 wr lo vs i n m lv mv ms) (hl : lo ≤ w0.heap.size) (hv0 : ∀ j (h : j < vs.length) g, vs[j].1.ownBlock = some g → g < w0.heap.size)
    {xs : List Value} (hx : wr.ownsRow lo 3 1 lv (n + m) xs) (hown : w1.ownsRow lo 3 1 lv' (n + m + 1) (xs ++ [mkV i])) (hg : (wr.alloc o).grownBy w1 lv.ownBlock) (hat : lv'.ownBlock = lv.ownBlock ∨ lv'.ownBlock = some (wr.alloc o).heap.size)
    (hfr : ∀ g j u, lv.ownBlock = some g → j < (n + m) * 1 → (wr.alloc o).cell? ⟨g, j, none⟩ = some u → w1.cell? ⟨g, j, none⟩ = some u) : Gy w0 w1 lo vs i n (m + 1) lv' mv ms := by
  have hsz : (wr.alloc o).heap.size = wr.heap.size + 1 := by simp
  have hb : ∀ k, k < wr.heap.size → lv.ownBlock ≠ some k → w1.heap[k]? = wr.heap[k]? := fun k h1 h2 => (hg.block k (by omega) (fun e => h2 e.symm)).trans (Below.heap_alloc wr o k h1)
  obtain ⟨ys, hy, hym⟩ := h.lvm
  have hxm : ∀ k, k < n + m → xs[k]? = some (mkV i) := fun k hk => by
    obtain ⟨g, cap, e, _⟩ := own_form hx (by omega)
    rw [e] at hx hy
    rw [← World.ownsRow.cellAt hx k (by omega), World.ownsRow.cellAt hy k (by omega), hym k hk]
  refine ⟨h.gx.step (by omega) hl hv0 hown hg hat hfr, ⟨_, hown, fun k hk => ?_⟩, own_blk h.row (fun k hk => hb k (World.ownsRow.lt h.row k hk).2 (fun e => ?_)), h.mnew, fun j hj hji => ?_⟩
  · have hlen : xs.length = n + m := by have := hx.1; omega
    by_cases hk2 : k < n + m
    · rw [List.getElem?_append_left (by omega)]; exact hxm k hk2
    · rw [List.getElem?_append_right (by omega), hlen, show k - (n + m) = 0 by omega]; rfl
  · obtain ⟨c1, q1⟩ := own_typed h.row hk
    obtain ⟨c2, q2⟩ := own_typed hx e
    exact typed_ne q1 q2 intsInt rfl
  · obtain ⟨g, c, h1, h2, h3, ⟨cs, h4⟩, h5⟩ := h.dn j hj hji
    have hgl := (Array.getElem?_eq_some_iff.1 h4).1
    have hk := hb g hgl h5
    refine ⟨g, c, h1, h2, fun k hk2 => (World.cell?_of_block (a := ⟨g, k, none⟩) hk).trans (h3 k hk2), ⟨cs, hk.trans h4⟩, ?_⟩
    rcases hat with e | e
    · rw [e]; exact h5
    · rw [e, hsz]
      intro e2
      injection e2 with e2
      omega
theorem Gy.done {w0 wr w2 : World} {lo : Nat} {vs : List (Value × Nat)} {i n : Nat} {lv mv mv' : Value} {ms : List Value} {o : Obj} (h : Gy w0 wr lo vs i n 64 lv mv ms) (hl : lo ≤ w0.heap.size) (hi : i < vs.length) (hv0 : ∀ j (h : j < vs.length) g, vs[j].1.ownBlock = some g → g < w0.heap.size)
    (hown : w2.ownsRow lo 48 1 mv' (i + 1) (ms ++ [lv])) (hg : (wr.alloc o).grownBy w2 mv.ownBlock) (hat : mv'.ownBlock = mv.ownBlock ∨ mv'.ownBlock = some (wr.alloc o).heap.size) : Gm w0 w2 lo vs (i + 1) mv' (ms ++ [lv]) := by
  have hsz : (wr.alloc o).heap.size = wr.heap.size + 1 := by simp
  have hs0 := h.gx.gz.kp.sz
  have hb : ∀ k, k < wr.heap.size → mv.ownBlock ≠ some k → w2.heap[k]? = wr.heap[k]? := fun k h1 h2 => (hg.block k (by omega) (fun e => h2 e.symm)).trans (Below.heap_alloc wr o k h1)
  have hms : ms.length = i := by have := h.row.1; omega
  have hn := h.gx.nn hi
  have hmt : ∀ g cs, wr.heap[g]? = some (.cells cs 3 (0, 0)) → mv.ownBlock ≠ some g := fun g cs hc e => by
    obtain ⟨c1, q1⟩ := own_typed h.row e
    exact typed_ne q1 hc intsInt rfl
  have hold : ∀ j (hj : j < vs.length) g, vs[j].1.ownBlock = some g → w2.heap[g]? = wr.heap[g]? := fun j hj g e => by
    have := hv0 j hj g e
    exact hb g (by omega) (fun e2 => by have := h.mnew g e2; omega)
  refine ⟨⟨fun j hj hji => ?_, fun j hj k hk => ?_, ⟨?_, fun k h1 h2 => ?_, ?_⟩⟩, hown, fun g e => ?_, fun j hj hji => ?_⟩
  · obtain ⟨xs, h1⟩ := h.gx.gz.own j hj hji
    exact ⟨xs, own_blk h1 (fun k hk => hold j hj k hk)⟩
  · obtain ⟨g, cap, e, hc⟩ := h.gx.gz.rd j hj k hk
    exact ⟨g, cap, e, (World.cell?_of_block (a := ⟨g, k * 1 + 0, none⟩) (hold j hj g (by rw [e]; rfl))).trans hc⟩
  · have := hg.size
    omega
  · exact (hb k (by omega) (fun e => by have := h.mnew k e; omega)).trans (h.gx.gz.kp.kp k h1 h2)
  · exact (h.gx.gz.kp.bel.alloc (by omega) o).grown hg (by omega) (fun k hk => (World.ownsRow.lt h.row k hk).1)
  · rcases hat with e2 | e2
    · rw [e2] at e; exact h.mnew g e
    · rw [e2, hsz] at e
      injection e with e
      omega
  · by_cases e : j < i
    · obtain ⟨g, c, h1, h2, h3, ⟨cs, h4⟩, _⟩ := h.dn j hj e
      have hk := hb g (Array.getElem?_eq_some_iff.1 h4).1 (hmt g cs h4)
      exact ⟨g, c, by rw [List.getElem?_append_left (by omega)]; exact h1, h2, fun k hk2 => (World.cell?_of_block (a := ⟨g, k, none⟩) hk).trans (h3 k hk2), ⟨cs, hk.trans h4⟩, fun e => nomatch e⟩
    · have : j = i := by omega
      subst this
      obtain ⟨xs, hx, hxm⟩ := h.lvm
      obtain ⟨g, c, e1, _⟩ := own_form hx (by omega)
      have hob : lv.ownBlock = some g := by rw [e1]; rfl
      obtain ⟨cs, h4⟩ := own_typed hx hob
      have hk := hb g (Array.getElem?_eq_some_iff.1 h4).1 (hmt g cs h4)
      refine ⟨g, c, ?_, ?_, fun k hk2 => ?_, ⟨cs, hk.trans h4⟩, fun e => nomatch e⟩
      · rw [List.getElem?_append_right (by omega), hms, Nat.sub_self, hn, ← e1]; rfl
      · rcases h.gx.nw g hob with ⟨_, h6⟩ | h6
        · exact .inl h6
        · exact .inr h6
      · rw [hn] at hk2
        rw [e1] at hx
        rw [(World.cell?_of_block (a := ⟨g, k, none⟩) hk), World.ownsRow.cellAt hx k (by omega), hxm k hk2]
theorem Gm.begin {w0 wr : World} {lo : Nat} {vs : List (Value × Nat)} (h : Gz w0 wr lo 3 1 0 vs 0) : Gm w0 wr lo vs 0 (.slice none 0 0) [] :=
  ⟨h, World.ownsRow_nil _ _ _ _, (fun _ e => nomatch e), fun _ _ hj => absurd hj (Nat.not_lt_zero _)⟩
end Go.Proofs.YtcbepmjojppokaaGreatDoor.Tp
namespace Go.Proofs.YtcbepmjojppokaaGreatDoor.Tp
open Go.RowKit Go.Shelf
theorem infoI8 : (Tryz.prog.info? 3).map (fun i => (i.zero, i.size, i.bytes)) = some (some (.int .i64 0), 1, 8) := by kernel_rfl
theorem infoR24 : (Tryz.prog.info? 48).map (fun i => (i.zero, i.size, i.bytes)) = some (some (.slice none 0 0), 1, 24) := by kernel_rfl
set_option maxRecDepth 10000 in
set_option maxHeartbeats 6400000 in
theorem apart_any (al : Option Addr) (lo gl cl : Nat) (vs : List (Value × Nat)) (w : World) (hN : vs.length ≤ 1000000) (hlo : lo ≤ w.heap.size) (hgl : 0 < vs.length → gl < w.heap.size) (hga : ∀ j (h : j < vs.length), vs[j].1.ownBlock ≠ some gl) (hrow : ∀ j (h : j < vs.length), w.cell? ⟨gl, j, none⟩ = some vs[j].1)
    (hown : ∀ j (h : j < vs.length), ∃ xs, w.ownsRow lo 3 1 vs[j].1 vs[j].2 xs) (ha : Aprt vs) (hn : ∀ j (h : j < vs.length), vs[j].2 ≤ 2000000) (hal : 0 < vs.length → al = some ⟨gl, 0, none⟩) :
    Calls Tryz.prog 11 #[.slice al vs.length cl] w fun e w' => e = .returned (.bool true) ∧ Hid (Kp w w' lo vs) := by
  have HRow : Hid (∀ W : World, Kp w W lo vs → ∀ j (h : j < vs.length), W.cell? ⟨gl, j, none⟩ = some vs[j].1) := hid0 (fun W hW j hj => (World.cell?_of_block (a := ⟨gl, j, none⟩) (hW.kp gl (hgl (by omega)) hga)).trans (hrow j hj))
  have HSl : Hid (∀ j (h : j < vs.length), ∃ a c, vs[j].1 = .slice a vs[j].2 c) := hid0 (fun j hj => by obtain ⟨xs, h⟩ := hown j hj; exact own_slC h)
  have HV0 : Hid (∀ j (h : j < vs.length) g, vs[j].1.ownBlock = some g → g < w.heap.size) := hid0 (fun j hj g hg => by obtain ⟨xs, h⟩ := hown j hj; exact (World.ownsRow.lt h g hg).2)
  have HF0 : Hid (Fl w w lo 3 1 0 vs 0 0) := hid0 ⟨fun j hj => by
    obtain ⟨xs, h⟩ := hown j hj
    exact ⟨xs, h, fun hh => absurd hh (Nat.not_lt_zero _), fun _ k hk => absurd hk (Nat.not_lt_zero _)⟩, Kp.refl _ _ _⟩
  have HA := hid0 ha
  have HNn := hid0 hn
  have HLo := hid0 hlo
  obtain ⟨j0, hj, hy0, hy1, hy2⟩ := info_parts infoI8
  obtain ⟨q0, hq, hz0, hz1, hz2⟩ := info_parts infoR24
  obtain ⟨N, hNN⟩ : ∃ N, N = vs.length := ⟨_, rfl⟩
  rw [← hNN] at hN hal ⊢
  have HN := hid0 hNN
  clear hrow hown ha hn hga hgl hNN hlo
  go_enter Tryz.func11, Tryz.ntmps11
  go_wp2
  go_loopw [4] (fun i wr => ∃ k : Nat, k ≤ N ∧ i = .int .i64 (k : Int) ∧ Hid (Fl w wr lo 3 1 0 vs k 0)) (fun i _ => N - (intOf i).toNat)
  case atStart => exact ⟨0, by omega, rfl, HF0⟩
  case round =>
    clear HF0
    obtain ⟨i, hi, rfl, HF⟩ := hrel
    by_cases hlt : i < N
    · obtain rfl := hal (by omega)
      have hiz : (i : Int) < (N : Int) := by omega
      have hi0 : (0 : Int) ≤ (i : Int) := by omega
      have hil : i < vs.length := by rw [← HN.out]; exact hlt
      have hni := HNn.out i hil
      obtain ⟨a, c, hvi⟩ := HSl.out i hil
      have HVi := hid0 hvi
      clear hvi
      go_wp2
      go_loopw [5] (fun j wr => ∃ k : Nat, k ≤ vs[i].2 ∧ j = .int .i64 (k : Int) ∧ Hid (Fl w wr lo 3 1 0 vs i k)) (fun j _ => vs[i].2 - (intOf j).toNat)
      case atStart => exact ⟨0, Nat.zero_le _, rfl, HF⟩
      case round =>
        clear HF
        obtain ⟨k, hk, rfl, HF⟩ := hrel
        have hr0 := HRow.out wr HF.out.kp i hil
        rw [HVi.out] at hr0
        by_cases hkl : k < vs[i].2
        · have hkz : (k : Int) < (vs[i].2 : Int) := by omega
          have hk0 : (0 : Int) ≤ (k : Int) := by omega
          obtain ⟨g, cap, hv, hg1, hg2, hcs⟩ := HF.out.at hil (by omega)
          have hv2 := hv
          rw [HVi.out] at hv2
          injection hv2 with e1 e2 e3
          subst e1 e3
          clear hv e2
          obtain ⟨⟨u0, c0⟩, f0⟩ := hcs k (by omega)
          have hm := HF.out.mark HA.out hil HVi.out hkl (by omega)
          rw [Nat.mul_one, Nat.add_zero] at hm
          unfold mkV at hm
          have HM := hid0 hm
          clear hm hcs
          generalize vs[i].2 = n at *
          go_wp2
          go_roundw
          case rel => exact ⟨k + 1, by omega, by go_num, HM⟩
          case measure => simp [intOf]; omega
        · have hkz : ¬ (k : Int) < (vs[i].2 : Int) := by omega
          have HN2 := hid0 (HF.out.next (fun _ => by omega))
          generalize vs[i].2 = n at *
          go_wp2
          go_roundw
          case rel => exact ⟨i + 1, by omega, by go_num, HN2⟩
          case measure => simp [intOf]; omega
    · have hiI : ¬ (i : Int) < (N : Int) := by omega
      have hi4 : i = vs.length := by rw [← HN.out]; omega
      rw [hi4] at HF
      have HG := hid0 (Gm.begin (HF.out.gz (by omega)))
      clear HF hi4
      go_wp2
      go_loopw [3, 6] (fun t i wr => ∃ (k : Nat) (am : Option Addr) (cm : Nat) (ms : List Value), k ≤ N ∧ i = .int .i64 (k : Int) ∧ t = .slice am k cm ∧ Hid (Gm w wr lo vs k (.slice am k cm) ms)) (fun _ i _ => N - (intOf i).toNat)
      case atStart => exact ⟨0, none, 0, [], by omega, rfl, rfl, HG⟩
      case round =>
        clear HG
        obtain ⟨i, am, cm, ms, hi, rfl, rfl, HG⟩ := hrel
        by_cases hlt : i < N
        · obtain rfl := hal (by omega)
          have hiz : (i : Int) < (N : Int) := by omega
          have hi0 : (0 : Int) ≤ (i : Int) := by omega
          have hil : i < vs.length := by rw [← HN.out]; exact hlt
          have hni := HNn.out i hil
          obtain ⟨a, c, hvi⟩ := HSl.out i hil
          have hr0 := HRow.out wr HG.out.gz.kp i hil
          have hy := HG.out.start HA.out hil HV0.out
          rw [hvi] at hr0 hy
          have HY0 := hid0 hy
          clear hvi hy HG
          generalize vs[i].2 = n at *
          go_wp2
          go_loopw [7, 8] (fun l j wr => ∃ (m : Nat) (lv : Value), m ≤ 64 ∧ j = .int .i64 (m : Int) ∧ lv = l ∧ Hid (Gy w wr lo vs i n m lv (.slice am i cm) ms)) (fun _ j _ => 64 - (intOf j).toNat)
          case atStart => exact ⟨0, _, by omega, rfl, rfl, HY0⟩
          case round =>
            clear HY0 hr0
            obtain ⟨m, lv, hm, rfl, rfl, HY⟩ := hrel
            have hsW := HY.out.gx.gz.kp.sz
            have hloW := HLo.out
            by_cases hml : m < 64
            · have hmz : (m : Int) < 64 := by omega
              obtain ⟨xs, hxs, _⟩ := HY.out.lvm
              have HXs := hid0 hxs
              clear hxs
              go_wp2_with (at_builtin; go_loud ((
                refine wpList_append_own_front _ (by rfl) _ _ 48 (by rfl) lo 3 j0 (.int .i64 0) 1 8 Tryz.underlying48 hj hy0 hy1 hy2 rfl (by decide) _ (n + m) xs (by rfl) (World.ownsRow.alloc HXs.out _) ⟨_, 0, none⟩ 1 1 [mkV i] (by rfl) (by rfl) (cell_one_new _ _ _) (fun u hu => by rw [List.mem_singleton] at hu; rw [hu]; rfl) (by unfold maxLen; omega) (by omega) (by simp; omega) ?_
                intro v8 w8 hown8 hgrow8 hat8 hfr8
                have HY1 := hid0 (HY.out.step HLo.out HV0.out HXs.out hown8 hgrow8 hat8 hfr8)
                clear hown8 hgrow8 hat8 hfr8)))
              go_roundw
              case rel => exact ⟨m + 1, _, by omega, by go_num, rfl, HY1⟩
              case measure => simp [intOf]; omega
            · have hmz : ¬ (m : Int) < 64 := by omega
              have hm64 : m = 64 := by omega
              subst hm64
              obtain ⟨xs, hxs, _⟩ := HY.out.lvm
              obtain ⟨al, cl2, rfl⟩ := own_slC hxs
              have HRw := hid0 HY.out.row
              clear hxs
              go_wp2_with (at_builtin; go_loud ((
                refine wpList_append_own_at _ (by rfl) _ _ 31 (by rfl) lo 48 q0 (.slice none 0 0) 1 24 Tryz.underlying31 hq hz0 hz1 hz2 rfl (by decide) _ i ms (by rfl) (World.ownsRow.alloc HRw.out _) ⟨_, 0, none⟩ 1 1 [.slice al (n + 64) cl2] (by rfl) (by rfl) (cell_one_new _ _ _) (fun u hu => by rw [List.mem_singleton] at hu; rw [hu]; rfl) (by unfold maxLen; omega) (by omega) (by simp; omega) ?_
                intro v8 w8 hown8 hgrow8 _ hat8
                have HG1 := hid0 (HY.out.done HLo.out hil HV0.out hown8 hgrow8 hat8)
                obtain ⟨am9, cm9, rfl⟩ := own_slC hown8
                clear hown8 hgrow8 hat8)))
              go_roundw
              case rel => exact ⟨i + 1, am9, cm9, _, by omega, by go_num, rfl, HG1⟩
              case measure => simp [intOf]; omega
        · have hi4 : i = N := by omega
          subst hi4
          have hiI : ¬ (i : Int) < (i : Int) := by omega
          clear hlt hi hiI
          go_wp2
          go_loopw [9] (fun t wr => ∃ k : Nat, k ≤ i ∧ t = .int .i64 (k : Int) ∧ Hid (Gm w wr lo vs i (.slice am i cm) ms)) (fun t _ => i - (intOf t).toNat)
          case atStart => exact ⟨0, by omega, rfl, HG⟩
          case round =>
            clear HG
            obtain ⟨p, hp, rfl, HG⟩ := hrel
            by_cases hpl : p < i
            · obtain rfl := hal (by omega)
              have hiz : (p : Int) < (i : Int) := by omega
              have hi0 : (0 : Int) ≤ (p : Int) := by omega
              have hil : p < vs.length := by rw [← HN.out]; exact hpl
              have hni := HNn.out p hil
              obtain ⟨a, c, hvi⟩ := HSl.out p hil
              have HVi := hid0 hvi
              obtain ⟨g, c9, m1, _⟩ := HG.out.dn p hil hpl
              have HM1 := hid0 m1
              obtain ⟨gm, cm', e1, _⟩ := own_form HG.out.row (by omega)
              injection e1 with e1 _ e3
              subst e1
              subst e3
              have HCm : Hid (∀ W, Gm w W lo vs i (.slice (some ⟨gm, 0, none⟩) i cm) ms → W.cell? ⟨gm, p, none⟩ = some (.slice (some ⟨g, 0, none⟩) (vs[p].2 + 64) c9) ∧ W.cell? ⟨gl, p, none⟩ = some (.slice a vs[p].2 c) ∧ ∀ k, k < vs[p].2 + 64 → W.cell? ⟨g, k, none⟩ = some (mkV p)) := hid0 (fun W hW => by
                refine ⟨?_, ?_, ?_⟩
                · rw [World.ownsRow.cellAt hW.row p (by omega), HM1.out]
                · rw [HRow.out W hW.gz.kp p hil, HVi.out]
                · obtain ⟨g', c', k1, _, k3, _⟩ := hW.dn p hil hpl
                  rw [HM1.out] at k1
                  injection k1 with k1
                  injection k1 with k1
                  injection k1 with k1
                  injection k1 with k1
                  subst k1
                  exact k3)
              clear hvi m1
              go_wp2
              go_loopw [10] (fun j wr => ∃ m : Nat, m ≤ vs[p].2 + 64 ∧ j = .int .i64 (m : Int) ∧ Hid (Gm w wr lo vs i (.slice (some ⟨gm, 0, none⟩) i cm) ms)) (fun j _ => vs[p].2 + 64 - (intOf j).toNat)
              case atStart => exact ⟨0, Nat.zero_le _, rfl, HG⟩
              case round =>
                clear HG
                obtain ⟨m, hm, rfl, HG⟩ := hrel
                obtain ⟨d0, d1, d2⟩ := HCm.out _ HG.out
                by_cases hml : m < vs[p].2 + 64
                · have hmz : (m : Int) < ((vs[p].2 + 64 : Nat) : Int) := by omega
                  have hm0 : (0 : Int) ≤ (m : Int) := by omega
                  have d3 := d2 m hml
                  unfold mkV at d3
                  clear d2
                  by_cases hmn : m < vs[p].2
                  · have hmnI : (m : Int) < (vs[p].2 : Int) := by omega
                    obtain ⟨g2, cap, hv, hc2⟩ := HG.out.gz.rd p hil m hmn
                    rw [HVi.out] at hv
                    injection hv with e1 e2 e3
                    subst e1 e3
                    rw [Nat.mul_one, Nat.add_zero] at hc2
                    unfold mkV at hc2
                    clear e2
                    generalize vs[p].2 = n at *
                    go_wp2
                    go_roundw
                    case rel => exact ⟨m + 1, by omega, by go_num, HG⟩
                    case measure => simp [intOf]; omega
                  · have hmnI : ¬ (m : Int) < (vs[p].2 : Int) := by omega
                    generalize vs[p].2 = n at *
                    go_wp2
                    go_roundw
                    case rel => exact ⟨m + 1, by omega, by go_num, HG⟩
                    case measure => simp [intOf]; omega
                · have hmz : ¬ (m : Int) < ((vs[p].2 + 64 : Nat) : Int) := by omega
                  clear d2
                  generalize vs[p].2 = n at *
                  go_wp2
                  go_roundw
                  case rel => exact ⟨p + 1, by omega, by go_num, HG⟩
                  case measure => simp [intOf]; omega
            · have hiz : ¬ (p : Int) < (i : Int) := by omega
              go_wp2
              go_ret
              exact ⟨rfl, hid0 HG.out.gz.kp⟩
end Go.Proofs.YtcbepmjojppokaaGreatDoor.Tp
namespace Go.Proofs.YtcbepmjojppokaaGreatDoor.Tp
open Go.RowKit Go.Shelf
theorem step_append_own_at {P : Program} {ops : Array Oper} {o : Oper} {a : Act} {w : World} {K : Act → World → Prop} {Q : Exit → Act → World → Prop} {E : Prop} (hg : o.guard = none) (s x : Operand) (t : TypeId)
    (ho : o.op = .call { callee := .builtin .append, args := #[s, x], argTypes := #[t, t] })
    (base : Nat) (e : TypeId) (i : TypeInfo) (z : Value) (size bytes : Nat) (ht : P.underlying t = some (.slice e)) (hi : P.info? e = some i) (hz : i.zero = some z)
    (hsize : i.size = size) (hby : i.bytes = bytes) (hzs : z.cells.size = size) (hsz : 0 < size)
    (v : Value) (n : Nat) (xs : List Value) (hs : a.eval s = v) (hown : w.ownsRow base e size v n xs)
    (ad : Addr) (m c : Nat) (news : List Value) (hx : a.eval x = .slice (some ad) m c) (hl : news.length = m * size) (hnews : ∀ j u, news[j]? = some u → w.cell? (ad.add j) = some u) (h1 : ∀ u ∈ news, u.oneCell' = true)
    (h63 : n + m ≤ maxLen) (hbytes : (n + m) * bytes ≤ 140737488355328) (hbase : base ≤ w.heap.size)
    (h : ∀ v' w', w'.ownsRow base e size v' (n + m) (xs ++ news) → w.grownBy w' v.ownBlock → (v'.ownBlock = v.ownBlock ∨ v'.ownBlock = some w.heap.size) → K (a.put o.dst v') w') :
    if Region.wanted o (yielded ops a.tmps) = true then Oper.wp P o a w K Q else E := by
  have hw : Region.wanted o (yielded ops a.tmps) = true := by simp [Region.wanted, hg]
  rw [if_pos hw]
  obtain ⟨v', w', hr, h2, h3, _, h5⟩ := run_append_own_at (P := P) w base t o.type e i z size bytes ht hi hz hsize hby hzs hsz v n xs hown ad m c news hl hnews h1 h63 hbytes hbase
  unfold Oper.wp execOp
  simp only [ho, resolve, invoke, builtin, Sem.run_bind, Sem.run_pure, Result.andThen_ok, List.map_toArray, List.map_cons, List.map_nil, hs, hx, hr]
  exact h v' w' h2 h3 h5
theorem cell2_new (w : World) (a b : Value) (t : TypeId) : ∀ j u, [a, b][j]? = some u → (w.alloc (.cells #[a, b] t)).cell? ((⟨w.heap.size, 0, none⟩ : Addr).add j) = some u := by
  intro j u h
  rw [Addr.add_lit, cell_of_row _ w.heap.size _ _ _ _ (heap_alloc_new w _), Nat.zero_add]
  simpa using h
set_option maxRecDepth 10000 in
set_option maxHeartbeats 6400000 in
theorem lists_any (a : Option Addr) (g n c : Nat) (VS : List Value) (w : World) (hn : n ≤ 1000000) (hVS : VS.length = n * 2) (ha : 0 < n → a = some ⟨g, 0, none⟩) (hc : ∀ j (h : j < VS.length), w.cell? ⟨g, j, none⟩ = some VS[j]) (hsl : ∀ j (h : j < VS.length), ∃ b m cc, VS[j] = .slice b m cc) :
    Calls Tryz.prog 10 #[.slice a n c] w fun e w' => ∃ b cc, e = .returned (.slice b (n * 2) cc) ∧ Hid (w'.ownsRow w.heap.size 48 1 (.slice b (n * 2) cc) (n * 2) VS ∧ Below w.heap.size w w') := by
  obtain ⟨q0, hq, hz0, hz1, hz2⟩ := info_parts infoR24
  have HC := hid0 hc
  have HSl := hid0 hsl
  clear hc hsl
  go_enter Tryz.func10, Tryz.ntmps10
  go_wp2
  go_loopw [3, 4] (fun t i wr => ∃ (k : Nat) (b : Option Addr) (cc : Nat), k ≤ n ∧ i = .int .i64 (k : Int) ∧ t = .slice b (k * 2) cc ∧ Hid (wr.ownsRow w.heap.size 48 1 (.slice b (k * 2) cc) (k * 2) (VS.take (k * 2))) ∧ Hid (Below w.heap.size w wr)) (fun _ i _ => n - (intOf i).toNat)
  case atStart => exact ⟨0, none, 0, by omega, rfl, rfl, hid0 (World.ownsRow_nil _ _ _ _), hid0 (Below.refl _ _)⟩
  case round =>
    obtain ⟨k, b, cc, hk, rfl, rfl, HO, HB⟩ := hrel
    by_cases hlt : k < n
    · have hkI : (k : Int) < (n : Int) := by omega
      have hkI0 : (0 : Int) ≤ (k : Int) := by omega
      obtain rfl := ha (by omega)
      have e0 := HC.out (k * 2) (by omega)
      have e1 := HC.out (k * 2 + 1) (by omega)
      obtain ⟨b0, m0, c0, q0'⟩ := HSl.out (k * 2) (by omega)
      obtain ⟨b1, m1, c1, q1'⟩ := HSl.out (k * 2 + 1) (by omega)
      rw [q0'] at e0
      rw [q1'] at e1
      have p0 : wr.cell? ⟨g, k * 2, none⟩ = some (.slice b0 m0 c0) := (HB.out.cell (p := ⟨g, k * 2, none⟩) (World.block_lt_of_cell? w _ e0)).trans e0
      have p1 : wr.cell? ⟨g, k * 2 + 1, none⟩ = some (.slice b1 m1 c1) := (HB.out.cell (p := ⟨g, k * 2 + 1, none⟩) (World.block_lt_of_cell? w _ e1)).trans e1
      have HT : Hid (VS.take (k * 2) ++ [.slice b0 m0 c0, .slice b1 m1 c1] = VS.take ((k + 1) * 2)) := hid0 (by
        rw [show (k + 1) * 2 = k * 2 + 1 + 1 by omega, List.take_succ_eq_append_getElem (show k * 2 + 1 < VS.length by omega), List.take_succ_eq_append_getElem (show k * 2 < VS.length by omega), q0', q1', List.append_assoc]
        rfl)
      have hs0 := HB.out.size
      obtain ⟨vB, hvB⟩ : ∃ vB, vB = wr.drew.alloc (.cells #[.slice b0 m0 c0, .slice b1 m1 c1] 48) := ⟨_, rfl⟩
      have HOw : Hid (vB.ownsRow w.heap.size 48 1 (.slice b (k * 2) cc) (k * 2) (VS.take (k * 2))) := hid0 (by rw [hvB]; exact World.ownsRow.alloc (own_blk HO.out (fun _ _ => rfl)) _)
      have HNw : Hid (∀ j u, [Value.slice b0 m0 c0, .slice b1 m1 c1][j]? = some u → vB.cell? ((⟨wr.heap.size, 0, none⟩ : Addr).add j) = some u) := hid0 (by rw [hvB]; exact cell2_new _ _ _ _)
      have HLw : Hid (w.heap.size ≤ vB.heap.size) := hid0 (by rw [hvB]; simp; omega)
      have HBw : Hid (Below w.heap.size w vB) := hid0 (by rw [hvB]; exact (HB.out.drew).alloc hs0 _)
      have gB := hvB.symm
      clear hvB e0 e1 q0' q1' hs0
      go_wp2
      go_region_law ((refine step_append_own_at (by rfl) _ _ 31 (by rfl) w.heap.size 48 q0 _ 1 24 Tryz.underlying31 hq hz0 hz1 hz2 rfl (by decide) (.slice b (k * 2) cc) (k * 2) (VS.take (k * 2)) (by rfl) HOw.out ⟨wr.heap.size, 0, none⟩ 2 2 [.slice b0 m0 c0, .slice b1 m1 c1] (by rfl) (by rfl) HNw.out (by simp [Value.oneCell']) (by unfold maxLen; omega) (by omega) HLw.out ?_; intro v' w2 h1 h2 h3; obtain ⟨a2, c2, rfl⟩ := own_slC h1; rw [HT.out] at h1; have HO2 := hid0 h1; have HB2 := hid0 (HBw.out.grown h2 HLw.out (fun q hq => (World.ownsRow.lt HOw.out q hq).1)); clear h1 h2 h3))
      all_goals
        go_wp2
        go_roundw
        case rel => exact ⟨k + 1, a2, c2, by omega, by go_num, by rw [show (k + 1) * 2 = k * 2 + 2 by omega], hid0 (by rw [show (k + 1) * 2 = k * 2 + 2 by omega] at *; exact HO2.out), HB2⟩
        case measure => simp [intOf]; omega
    · have hkI : ¬ (k : Int) < (n : Int) := by omega
      have hkn : k = n := by omega
      subst hkn
      have HO2 := HO.out
      rw [List.take_of_length_le (by omega)] at HO2
      go_wp2
      go_ret
      exact ⟨b, cc, rfl, hid0 ⟨HO2, HB.out⟩⟩
end Go.Proofs.YtcbepmjojppokaaGreatDoor.Tp
namespace Go.Proofs.YtcbepmjojppokaaGreatDoor.Tp
open Go.RowKit Go.Shelf
/-- A list of one number. -/
abbrev lst1 (o : Nat) : Value := .slice (some ⟨o, 0, none⟩) 1 1
structure Ot (w wr : World) (lo : Nat) (v0 u0 v u : Value) (n p k q o1 o2 : Nat) (x1 x2 : Int) : Prop where
  l : ∃ xs, wr.ownsRow lo 50 2 v n xs ∧ ∀ j, j < k → xs[j * 2]? = some (lst1 o1)
  m : ∃ xs, wr.ownsRow lo 50 2 u p xs ∧ ∀ j, j < q → xs[j * 2]? = some (lst1 o2)
  ne : ∀ g, v.ownBlock = some g → u.ownBlock ≠ some g
  lw : ∀ g, v.ownBlock = some g → (v0.ownBlock = some g ∧ g < w.heap.size) ∨ w.heap.size + 2 ≤ g
  mw : ∀ g, u.ownBlock = some g → (u0.ownBlock = some g ∧ g < w.heap.size) ∨ w.heap.size + 2 ≤ g
  on : Only w wr (fun k => v0.ownBlock = some k ∨ u0.ownBlock = some k)
  sz : w.heap.size + 2 ≤ wr.heap.size
  c1 : wr.heap[o1]? = some (.cells #[.int .i64 x1] 3 (0, 0))
  c2 : wr.heap[o2]? = some (.cells #[.int .i64 x2] 3 (0, 0))
  p1 : w.heap.size ≤ o1 ∧ o1 < w.heap.size + 2
  p2 : w.heap.size ≤ o2 ∧ o2 < w.heap.size + 2
theorem Ot.swap {w wr : World} {lo : Nat} {v0 u0 v u : Value} {n p k q o1 o2 : Nat} {x1 x2 : Int} (h : Ot w wr lo v0 u0 v u n p k q o1 o2 x1 x2) : Ot w wr lo u0 v0 u v p n q k o2 o1 x2 x1 :=
  ⟨h.m, h.l, fun g h1 h2 => h.ne g h2 h1, h.mw, h.lw, ⟨h.on.os, h.on.tape, h.on.output, h.on.size, fun k hk hs => h.on.block k hk (fun e => hs e.symm)⟩, h.sz, h.c2, h.c1, h.p2, h.p1⟩
/-- One case is written. -/
theorem Ot.set {w wr : World} {lo : Nat} {v0 u0 u : Value} {n p k q o1 o2 g c : Nat} {x1 x2 : Int} (h : Ot w wr lo v0 u0 (.slice (some ⟨g, 0, none⟩) n c) u n p k q o1 o2 x1 x2) (hk : k < n) :
    Ot w ((wr.setCell ⟨g, k * 2, none⟩ (lst1 o1)).setCell ⟨g, k * 2 + 1, none⟩ (.slice none 0 0)) lo v0 u0 (.slice (some ⟨g, 0, none⟩) n c) u n p (k + 1) q o1 o2 x1 x2 := by
  obtain ⟨xs, hx, hm⟩ := h.l
  have hg := h.lw g rfl
  have s1 := (World.ownsRow.stored hx (k * 2) (lst1 o1)).1
  have s2 := (World.ownsRow.stored s1 (k * 2 + 1) (.slice none 0 0)).1
  have ho : ∀ j, ¬ j = g → ((wr.setCell ⟨g, k * 2, none⟩ (lst1 o1)).setCell ⟨g, k * 2 + 1, none⟩ (.slice none 0 0)).heap[j]? = wr.heap[j]? := fun j hj => (Below.heap_setCell _ _ _ j hj).trans (Below.heap_setCell _ _ _ j hj)
  have hlen : xs.length = n * 2 := hx.1
  refine ⟨⟨_, s2, fun j hj => ?_⟩, ?_, h.ne, h.lw, h.mw, ?_, by simp; exact h.sz, (ho _ (by have := h.p1; omega)).trans h.c1, (ho _ (by have := h.p2; omega)).trans h.c2, h.p1, h.p2⟩
  · rw [List.getElem?_set_ne (by omega)]
    by_cases e : j = k
    · subst e
      rw [List.getElem?_set_self (by omega)]
    · rw [List.getElem?_set_ne (by omega)]
      exact hm j (by omega)
  · obtain ⟨ys, hy, hym⟩ := h.m
    exact ⟨ys, own_blk hy (fun j hj => ho j (fun e => h.ne g rfl (by rw [← e]; exact hj))), hym⟩
  · refine ⟨h.on.os, h.on.tape, h.on.output, by simp; exact h.on.size, fun j hj hs => (ho j (fun e => ?_)).trans (h.on.block j hj hs)⟩
    rcases hg with ⟨h1, _⟩ | h1
    · exact hs (.inl (by rw [e]; exact h1))
    · omega
/-- One case is put behind. -/
theorem Ot.app {w wr w2 : World} {lo : Nat} {v0 u0 v v' u : Value} {n p q o1 o2 : Nat} {x1 x2 : Int} {o : Obj} {xs : List Value} (h : Ot w wr lo v0 u0 v u n p n q o1 o2 x1 x2) (hx : wr.ownsRow lo 50 2 v n xs)
    (hown : w2.ownsRow lo 50 2 v' (n + 1) (xs ++ [lst1 o1, .slice none 0 0])) (hg : (wr.alloc o).grownBy w2 v.ownBlock) (hat : v'.ownBlock = v.ownBlock ∨ v'.ownBlock = some (wr.alloc o).heap.size) :
    Ot w w2 lo v0 u0 v' u (n + 1) p (n + 1) q o1 o2 x1 x2 := by
  have hsz : (wr.alloc o).heap.size = wr.heap.size + 1 := by simp
  have hs0 := h.sz
  have hb : ∀ k, k < wr.heap.size → v.ownBlock ≠ some k → w2.heap[k]? = wr.heap[k]? := fun k h1 h2 => (hg.block k (by omega) (fun e => h2 e.symm)).trans (Below.heap_alloc wr o k h1)
  obtain ⟨ys, hy, hym⟩ := h.l
  have hxm : ∀ j, j < n → xs[j * 2]? = some (lst1 o1) := fun j hj => by
    obtain ⟨g, cap, e, _⟩ := own_form hx (by omega)
    rw [e] at hx hy
    rw [← World.ownsRow.cellAt hx (j * 2) (by omega), World.ownsRow.cellAt hy (j * 2) (by omega), hym j hj]
  have hno : ∀ k, w.heap.size ≤ k → k < w.heap.size + 2 → v.ownBlock ≠ some k := fun k h1 h2 e => by
    rcases h.lw k e with ⟨_, h3⟩ | h3 <;> omega
  have hlen : xs.length = n * 2 := hx.1
  refine ⟨⟨_, hown, fun j hj => ?_⟩, ?_, fun g e => ?_, fun g e => ?_, h.mw, ⟨?_, ?_, ?_, ?_, fun k hk hs => ?_⟩, ?_, (hb o1 (by have := h.p1; omega) (hno o1 h.p1.1 h.p1.2)).trans h.c1, (hb o2 (by have := h.p2; omega) (hno o2 h.p2.1 h.p2.2)).trans h.c2, h.p1, h.p2⟩
  · by_cases e : j < n
    · rw [List.getElem?_append_left (by omega)]; exact hxm j e
    · rw [List.getElem?_append_right (by omega), hlen, show j * 2 - n * 2 = 0 by omega]; rfl
  · obtain ⟨zs, hz, hzm⟩ := h.m
    exact ⟨zs, own_blk hz (fun j hj => hb j (World.ownsRow.lt hz j hj).2 (fun e => h.ne j e hj)), hzm⟩
  · rcases hat with e2 | e2
    · rw [e2] at e; exact h.ne g e
    · rw [e2, hsz] at e
      injection e with e
      obtain ⟨zs, hz, _⟩ := h.m
      intro e3
      have := (World.ownsRow.lt hz g e3).2
      omega
  · rcases hat with e2 | e2
    · rw [e2] at e; exact h.lw g e
    · rw [e2, hsz] at e
      injection e with e
      exact .inr (by omega)
  · exact hg.os.trans h.on.os
  · exact hg.tape.trans h.on.tape
  · exact hg.output.trans h.on.output
  · have := hg.size; have := h.on.size; omega
  · refine (hb k (by have := h.on.size; omega) (fun e => ?_)).trans (h.on.block k hk hs)
    rcases h.lw k e with ⟨h3, _⟩ | h3
    · exact hs (.inl h3)
    · omega
  · have := hg.size; omega
/-- What is read at the end. -/
theorem Ot.read {w wr : World} {lo : Nat} {v0 u0 v u : Value} {n p q o1 o2 : Nat} {x1 x2 : Int} (h : Ot w wr lo v0 u0 v u n p n q o1 o2 x1 x2) (k : Nat) (hk : k < n) :
    ∃ g c, v = .slice (some ⟨g, 0, none⟩) n c ∧ wr.cell? ⟨g, k * 2, none⟩ = some (lst1 o1) ∧ wr.cell? ⟨o1, 0, none⟩ = some (.int .i64 x1) := by
  obtain ⟨xs, hx, hm⟩ := h.l
  obtain ⟨g, c, e, _⟩ := own_form hx (by omega)
  rw [e] at hx
  refine ⟨g, c, e, ?_, by rw [cell_of_row _ _ _ _ _ _ h.c1]; rfl⟩
  rw [World.ownsRow.cellAt hx (k * 2) (by omega), hm k hk]
theorem Ot.cells {w wr : World} {lo : Nat} {v0 u0 v u : Value} {n p k q o1 o2 : Nat} {x1 x2 : Int} (h : Ot w wr lo v0 u0 v u n p k q o1 o2 x1 x2) (hk : k < n) :
    ∃ g c, v = .slice (some ⟨g, 0, none⟩) n c ∧ ((∃ z, wr.cell? ⟨g, k * 2, none⟩ = some z) ∧ wr.frozen? ⟨g, k * 2, none⟩ = false) ∧ (∃ z, wr.cell? ⟨g, k * 2 + 1, none⟩ = some z) ∧ wr.frozen? ⟨g, k * 2 + 1, none⟩ = false := by
  obtain ⟨xs, hx, _⟩ := h.l
  obtain ⟨g, c, e, _⟩ := own_form hx (by omega)
  rw [e] at hx
  have hlen : xs.length = n * 2 := hx.1
  refine ⟨g, c, e, ⟨⟨xs[k * 2]'(by omega), ?_⟩, World.ownsRow.frozenAt hx _⟩, ⟨xs[k * 2 + 1]'(by omega), ?_⟩, World.ownsRow.frozenAt hx _⟩
  · rw [World.ownsRow.cellAt hx _ (by omega), List.getElem?_eq_getElem]
  · rw [World.ownsRow.cellAt hx _ (by omega), List.getElem?_eq_getElem]
end Go.Proofs.YtcbepmjojppokaaGreatDoor.Tp
namespace Go.Proofs.YtcbepmjojppokaaGreatDoor.Tp
open Go.RowKit Go.Shelf
set_option maxRecDepth 10000 in
set_option maxHeartbeats 6400000 in
theorem outer_any (lo n p : Nat) (v0 u0 : Value) (xs0 ys0 : List Value) (w : World) (hx : w.ownsRow lo 50 2 v0 n xs0) (hy : w.ownsRow lo 50 2 u0 p ys0) (hne : ∀ g, v0.ownBlock = some g → u0.ownBlock ≠ some g) (hn : n ≤ 1000000) (hp : p ≤ 1000000) (hlo : lo ≤ w.heap.size) :
    Calls Tryz.prog 12 #[v0, u0] w fun e w' => e = .returned (.bool true) ∧ Hid (Only w w' (fun k => v0.ownBlock = some k ∨ u0.ownBlock = some k)) := by
  obtain ⟨q0, hq, hz0, hz1, hz2⟩ := info_parts infoCase
  have hb : Below w.heap.size w ((w.alloc (.cells #[.int .i64 1] 3)).alloc (.cells #[.int .i64 2] 3)) := ((Below.refl _ w).alloc (Nat.le_refl _) _).alloc (by simp) _
  have hc1 : ((w.alloc (.cells #[.int .i64 1] 3)).alloc (.cells #[.int .i64 2] 3)).heap[w.heap.size]? = some (.cells #[.int .i64 1] 3 (0, 0)) := (Below.heap_alloc _ _ _ (by simp)).trans (heap_alloc_new w _)
  have hc2 : ((w.alloc (.cells #[.int .i64 1] 3)).alloc (.cells #[.int .i64 2] 3)).heap[w.heap.size + 1]? = some (.cells #[.int .i64 2] 3 (0, 0)) := by
    have := heap_alloc_new (w.alloc (.cells #[.int .i64 1] 3)) (.cells #[.int .i64 2] 3)
    rwa [World.size_alloc] at this
  have HO0 : Hid (Ot w ((w.alloc (.cells #[.int .i64 1] 3)).alloc (.cells #[.int .i64 2] 3)) lo v0 u0 v0 u0 n p 0 0 w.heap.size (w.heap.size + 1) 1 2) := hid0
    ⟨⟨_, own_blk hx (fun k hk => hb.block k (World.ownsRow.lt hx k hk).2), fun j hj => absurd hj (Nat.not_lt_zero _)⟩, ⟨_, own_blk hy (fun k hk => hb.block k (World.ownsRow.lt hy k hk).2), fun j hj => absurd hj (Nat.not_lt_zero _)⟩, hne, fun g hg => .inl ⟨hg, (World.ownsRow.lt hx g hg).2⟩, fun g hg => .inl ⟨hg, (World.ownsRow.lt hy g hg).2⟩, Only.ofBelow hb _ (fun i h1 h2 => by omega), by simp, hc1, hc2, by omega, by omega⟩
  obtain ⟨a0, c0, rfl⟩ := own_slC hx
  obtain ⟨b0, d0, rfl⟩ := own_slC hy
  have HLo := hid0 hlo
  clear hx hy hne hb hc1 hc2 hlo
  go_enter Tryz.func12, Tryz.ntmps12
  go_wp2
  go_loopw [7] (fun i wr => ∃ k : Nat, k ≤ n ∧ i = .int .i64 (k : Int) ∧ Hid (Ot w wr lo (.slice a0 n c0) (.slice b0 p d0) (.slice a0 n c0) (.slice b0 p d0) n p k 0 w.heap.size (w.heap.size + 1) 1 2)) (fun i _ => n - (intOf i).toNat)
  case atStart => exact ⟨0, by omega, rfl, HO0⟩
  case round =>
    clear HO0
    obtain ⟨k, hk, rfl, HO⟩ := hrel
    by_cases hlt : k < n
    · have hkI : (k : Int) < (n : Int) := by omega
      have hkI0 : (0 : Int) ≤ (k : Int) := by omega
      obtain ⟨g, cap, hv, ⟨⟨z0, k0⟩, f0⟩, ⟨z1, k1⟩, f1⟩ := HO.out.cells hlt
      injection hv with e1 _ e3
      subst e1
      subst e3
      have HS := hid0 (HO.out.set hlt)
      go_wp2
      go_roundw
      case rel => exact ⟨k + 1, by omega, by go_num, HS⟩
      case measure => simp [intOf]; omega
    · have hkI : ¬ (k : Int) < (n : Int) := by omega
      have hkn : k = n := by omega
      subst hkn
      clear hlt hk
      go_wp2
      go_loopw [8] (fun i wr => ∃ q : Nat, q ≤ p ∧ i = .int .i64 (q : Int) ∧ Hid (Ot w wr lo (.slice a0 k c0) (.slice b0 p d0) (.slice a0 k c0) (.slice b0 p d0) k p k q w.heap.size (w.heap.size + 1) 1 2)) (fun i _ => p - (intOf i).toNat)
      case atStart => exact ⟨0, by omega, rfl, HO⟩
      case round =>
        clear HO
        obtain ⟨q, hq', rfl, HO⟩ := hrel
        by_cases hlt : q < p
        · have hqI : (q : Int) < (p : Int) := by omega
          have hqI0 : (0 : Int) ≤ (q : Int) := by omega
          obtain ⟨g, cap, hv, ⟨⟨z0, k0⟩, f0⟩, ⟨z1, k1⟩, f1⟩ := HO.out.swap.cells hlt
          injection hv with e1 _ e3
          subst e1
          subst e3
          have HS := hid0 (HO.out.swap.set hlt).swap
          go_wp2
          go_roundw
          case rel => exact ⟨q + 1, by omega, by go_num, HS⟩
          case measure => simp [intOf]; omega
        · have hqI : ¬ (q : Int) < (p : Int) := by omega
          have hqp : q = p := by omega
          subst hqp
          clear hlt hq'
          go_wp2
          go_loopw [0, 1, 9] (fun l m i wr => ∃ (j : Nat) (a1 : Option Addr) (c1 : Nat) (b1 : Option Addr) (d1 : Nat), j ≤ 64 ∧ i = .int .i64 (j : Int) ∧ l = .slice a1 (k + j) c1 ∧ m = .slice b1 (q + j) d1 ∧ Hid (Ot w wr lo (.slice a0 k c0) (.slice b0 q d0) (.slice a1 (k + j) c1) (.slice b1 (q + j) d1) (k + j) (q + j) (k + j) (q + j) w.heap.size (w.heap.size + 1) 1 2)) (fun _ _ i _ => 64 - (intOf i).toNat)
          case atStart => exact ⟨0, a0, c0, b0, d0, by omega, rfl, rfl, rfl, HO⟩
          case round =>
            clear HO
            obtain ⟨j, a1, c1, b1, d1, hj, rfl, rfl, rfl, HO⟩ := hrel
            by_cases hjl : j < 64
            · have hjI : (j : Int) < 64 := by omega
              obtain ⟨xs, hx, _⟩ := HO.out.l
              have HX := hid0 hx
              have hs1 := HO.out.sz
              have hlo := HLo.out
              clear hx
              go_wp2_with (first
                | (at_builtin; refine wpList_append_own_at _ (by rfl) _ _ 22 (by rfl) lo 50 q0 _ 2 48 Tryz.underlying22 hq hz0 hz1 hz2 rfl (by decide) (.slice a1 (k + j) c1) (k + j) xs (by rfl) (World.ownsRow.alloc HX.out _) ⟨_, 0, none⟩ 1 1 [lst1 w.heap.size, .slice none 0 0] (by rfl) (by rfl) (cell2_new _ _ _ _) (fun u hu => by simp only [List.mem_cons, List.not_mem_nil, or_false] at hu; rcases hu with rfl | rfl <;> rfl) (by unfold maxLen; omega) (by omega) (by simp; omega) ?_
                   intro v8 w8 h8a h8b _ h8c
                   have HO1 := hid0 (HO.out.app HX.out h8a h8b h8c)
                   obtain ⟨a8, c8, rfl⟩ := own_slC h8a
                   obtain ⟨ys, hy, _⟩ := HO1.out.m
                   have HY := hid0 hy
                   have hs8 := HO1.out.sz
                   clear h8a h8b h8c hy)
                | (at_builtin; refine wpList_append_own_at _ (by rfl) _ _ 22 (by rfl) lo 50 q0 _ 2 48 Tryz.underlying22 hq hz0 hz1 hz2 rfl (by decide) (.slice b1 (q + j) d1) (q + j) ys (by rfl) (World.ownsRow.alloc HY.out _) ⟨_, 0, none⟩ 1 1 [lst1 (w.heap.size + 1), .slice none 0 0] (by rfl) (by rfl) (cell2_new _ _ _ _) (fun u hu => by simp only [List.mem_cons, List.not_mem_nil, or_false] at hu; rcases hu with rfl | rfl <;> rfl) (by unfold maxLen; omega) (by omega) (by simp; omega) ?_
                   intro v9 w9 h9a h9b _ h9c
                   have HO2 := hid0 (HO1.out.swap.app HY.out h9a h9b h9c).swap
                   obtain ⟨b9, d9, rfl⟩ := own_slC h9a
                   clear h9a h9b h9c)
                | fail)
              go_roundw
              case rel => exact ⟨j + 1, a8, c8, b9, d9, by omega, by go_num, rfl, rfl, HO2⟩
              case measure => simp [intOf]; omega
            · have hjI : ¬ (j : Int) < 64 := by omega
              have hj64 : j = 64 := by omega
              subst hj64
              clear hjl hj
              go_wp2
              go_loopw [10] (fun i wr => ∃ t : Nat, t ≤ k + 64 ∧ i = .int .i64 (t : Int) ∧ Hid (Ot w wr lo (.slice a0 k c0) (.slice b0 q d0) (.slice a1 (k + 64) c1) (.slice b1 (q + 64) d1) (k + 64) (q + 64) (k + 64) (q + 64) w.heap.size (w.heap.size + 1) 1 2)) (fun i _ => k + 64 - (intOf i).toNat)
              case atStart => exact ⟨0, by omega, rfl, HO⟩
              case round =>
                clear HO
                obtain ⟨t, ht, rfl, HO⟩ := hrel
                by_cases htl : t < k + 64
                · have htI : (t : Int) < ((k + 64 : Nat) : Int) := by omega
                  have htI0 : (0 : Int) ≤ (t : Int) := by omega
                  obtain ⟨g, cap, hv, k0, k1⟩ := HO.out.read t htl
                  injection hv with e1 _ e3
                  subst e1
                  subst e3
                  go_wp2
                  go_roundw
                  case rel => exact ⟨t + 1, by omega, by go_num, HO⟩
                  case measure => simp [intOf]; omega
                · have htI : ¬ (t : Int) < ((k + 64 : Nat) : Int) := by omega
                  clear htl ht
                  go_wp2
                  go_loopw [11] (fun i wr => ∃ t : Nat, t ≤ q + 64 ∧ i = .int .i64 (t : Int) ∧ Hid (Ot w wr lo (.slice a0 k c0) (.slice b0 q d0) (.slice a1 (k + 64) c1) (.slice b1 (q + 64) d1) (k + 64) (q + 64) (k + 64) (q + 64) w.heap.size (w.heap.size + 1) 1 2)) (fun i _ => q + 64 - (intOf i).toNat)
                  case atStart => exact ⟨0, by omega, rfl, HO⟩
                  case round =>
                    clear HO
                    obtain ⟨t, ht, rfl, HO⟩ := hrel
                    by_cases htl : t < q + 64
                    · have htI : (t : Int) < ((q + 64 : Nat) : Int) := by omega
                      have htI0 : (0 : Int) ≤ (t : Int) := by omega
                      obtain ⟨g, cap, hv, k0, k1⟩ := HO.out.swap.read t htl
                      injection hv with e1 _ e3
                      subst e1
                      subst e3
                      go_wp2
                      go_roundw
                      case rel => exact ⟨t + 1, by omega, by go_num, HO⟩
                      case measure => simp [intOf]; omega
                    · have htI : ¬ (t : Int) < ((q + 64 : Nat) : Int) := by omega
                      go_wp2
                      go_ret
                      exact ⟨rfl, hid0 HO.out.on⟩
end Go.Proofs.YtcbepmjojppokaaGreatDoor.Tp
namespace Go.Proofs.YtcbepmjojppokaaGreatDoor.Tp
open Go.RowKit Go.Shelf
/-- A row's values, spread behind another row. -/
theorem wpList_spreadR {ops : Array Oper} {rest : List Oper} {op : Oper} {a : Act} {w : World} {Q : Exit → Act → World → Prop} (hgd : op.guard = none) (s x : Operand) (ho : op.op = .call { callee := .builtin .append, args := #[s, x], argTypes := #[31, 31] })
    (v vX : Value) (vs X : List Value) (lo loX n m : Nat) (hs : a.eval s = v) (hx : a.eval x = vX) (hn : n = vs.length) (hm : m = X.length) (hv : w.ownsRow lo 48 1 v n vs) (hX : w.ownsRow loX 48 1 vX m X) (h1 : ∀ u ∈ X, u.oneCell' = true) (hl : vs.length + X.length ≤ 1000000000) (hlo : lo ≤ w.heap.size)
    (h : ∀ v' w', w'.ownsRow lo 48 1 v' (n + m) (vs ++ X) → Only w w' (fun k => v.ownBlock = some k) → wpList Tryz.prog ops Q rest (a.put op.dst v') w') : wpList Tryz.prog ops Q (op :: rest) a w := by
  subst hn
  subst hm
  obtain ⟨i0, hi, hz0, hz1, hz2⟩ := info_parts infoR24
  rcases hX.2 with ⟨rfl, hX0⟩ | ⟨g, cap, cur, rfl, hg, hr, hc, _⟩
  · have hXn : X = [] := List.eq_nil_of_length_eq_zero hX0
    subst hXn
    refine wpList_append_own_none hgd s x 31 ho lo 48 i0 1 Tryz.underlying31 hi v vs.length vs hs hv hx (h v w (by rw [List.append_nil]; exact hv) (Only.refl _ _))
  · refine wpList_append_own_at _ hgd s x 31 ho lo 48 i0 (.slice none 0 0) 1 24 Tryz.underlying31 hi hz0 hz1 hz2 rfl (by decide) v vs.length vs hs hv ⟨g, 0, none⟩ X.length cap X hx (by omega) (fun j u hj => ?_) h1 (by unfold maxLen; omega) (by omega) hlo (fun v' w' q1 q2 _ _ => h v' w' q1 (Only.ofGrown q2))
    have hjl : j < X.length := (List.getElem?_eq_some_iff.1 hj).1
    rw [Addr.add_mid, Nat.zero_add, World.ownsRow.cellAt hX j (by omega)]
    exact hj
def lenV : Value → Nat | .slice _ n _ => n | _ => 0
/-- The lists of cases, with their lengths. -/
def lsV (VS : List Value) : List (Value × Nat) := VS.map fun v => (v, lenV v)
theorem pc_entry {W : World} {lo B : Nat} {v : Value} {VS : List Value} {C : List Cx} (h : PC W lo v VS C) (hS : ∀ x ∈ C, x.1.length ≤ B ∧ x.2.length ≤ B) {j : Nat} {u : Value} (hj : VS[j]? = some u) : ∃ L, OwnI W lo u L ∧ L.length ≤ B := by
  have hl : VS.length = C.length * 2 := h.own.1
  have hjl := (List.getElem?_eq_some_iff.1 hj).1
  have hi : j / 2 < C.length := by omega
  obtain ⟨vP, vB, q1, q2, q3, q4⟩ := h.at' (j / 2) hi
  have hm := hS _ (List.getElem_mem hi)
  have : j = j / 2 * 2 ∨ j = j / 2 * 2 + 1 := by omega
  rcases this with e | e
  · rw [← e, hj] at q1
    injection q1 with q1
    subst q1
    exact ⟨_, q3, hm.1⟩
  · rw [← e, hj] at q2
    injection q2 with q2
    subst q2
    exact ⟨_, q4, hm.2⟩
theorem own_len {W : World} {lo : Nat} {u : Value} {L : List Int} (h : OwnI W lo u L) : lenV u = L.length := by
  obtain ⟨a, c, rfl⟩ := own_slC h
  rfl
theorem pc_slice {W : World} {lo : Nat} {v : Value} {VS : List Value} {C : List Cx} (h : PC W lo v VS C) (j : Nat) (hj : j < VS.length) : ∃ b m c, VS[j] = .slice b m c := by
  have hl : VS.length = C.length * 2 := h.own.1
  have hB : ∀ x ∈ C, x.1.length ≤ (C.map fun y => y.1.length + y.2.length).sum ∧ x.2.length ≤ (C.map fun y => y.1.length + y.2.length).sum := fun x hx => by
    have : ∀ (D : List Cx), x ∈ D → x.1.length + x.2.length ≤ (D.map fun y => y.1.length + y.2.length).sum := by
      intro D
      induction D with
      | nil => intro h; cases h
      | cons y r ih =>
        intro h
        rw [List.map_cons, List.sum_cons]
        rcases List.mem_cons.1 h with rfl | h
        · omega
        · have := ih h; omega
    have := this C hx
    omega
  obtain ⟨L, h1, _⟩ := pc_entry h hB (List.getElem?_eq_getElem hj)
  obtain ⟨a, c, e⟩ := own_slC h1
  exact ⟨a, _, c, e⟩
/-- Both lists' lists: each its own, apart. -/
theorem both_own {W : World} {lo lo2 : Nat} {v1 v2 : Value} {VS1 VS2 : List Value} {C : List Cx} (h1 : PC W lo v1 VS1 C) (h2 : PC W lo2 v2 VS2 C) (hlo : lo ≤ lo2) (hS : ∀ x ∈ C, x.1.length ≤ 2000000 ∧ x.2.length ≤ 2000000) (hsep : ∀ (j : Nat) (u : Value) (g : Nat), VS1[j]? = some u → u.ownBlock = some g → g < lo2) :
    (∀ j (h : j < (lsV (VS1 ++ VS2)).length), ∃ xs, W.ownsRow lo 3 1 (lsV (VS1 ++ VS2))[j].1 (lsV (VS1 ++ VS2))[j].2 xs) ∧ Aprt (lsV (VS1 ++ VS2)) ∧ ∀ j (h : j < (lsV (VS1 ++ VS2)).length), (lsV (VS1 ++ VS2))[j].2 ≤ 2000000 := by
  have hget : ∀ j (h : j < (lsV (VS1 ++ VS2)).length), ∃ u, (lsV (VS1 ++ VS2))[j] = (u, lenV u) ∧ (VS1 ++ VS2)[j]? = some u := fun j h => by
    have h' : j < (VS1 ++ VS2).length := by unfold lsV at h; rwa [List.length_map] at h
    exact ⟨(VS1 ++ VS2)[j], List.getElem_map _, List.getElem?_eq_getElem h'⟩
  have hown : ∀ j u, (VS1 ++ VS2)[j]? = some u → ∃ L, OwnI W lo u L ∧ L.length ≤ 2000000 := fun j u hu => by
    by_cases e : j < VS1.length
    · rw [List.getElem?_append_left e] at hu
      exact pc_entry h1 hS hu
    · rw [List.getElem?_append_right (by omega)] at hu
      obtain ⟨L, q1, q2⟩ := pc_entry h2 hS hu
      exact ⟨L, owns_lower q1 hlo, q2⟩
  refine ⟨fun j h => ?_, fun i j hi hj hij g e1 e2 => ?_, fun j h => ?_⟩
  · obtain ⟨u, e, hu⟩ := hget j h
    obtain ⟨L, q1, _⟩ := hown j u hu
    rw [e]
    show ∃ xs, W.ownsRow lo 3 1 u (lenV u) xs
    rw [own_len q1]
    exact ⟨_, q1⟩
  · obtain ⟨a, ea, ha⟩ := hget i hi
    obtain ⟨b, eb, hb⟩ := hget j hj
    rw [ea] at e1
    rw [eb] at e2
    have hge : ∀ (k : Nat) (u : Value), VS2[k]? = some u → u.ownBlock = some g → lo2 ≤ g := fun k u hu hg => by
      obtain ⟨L, q1, _⟩ := pc_entry h2 hS hu
      exact (World.ownsRow.lt q1 g hg).1
    by_cases ci : i < VS1.length <;> by_cases cj : j < VS1.length
    · rw [List.getElem?_append_left ci] at ha
      rw [List.getElem?_append_left cj] at hb
      exact h1.apart i j a b g hij ha hb e1 e2
    · rw [List.getElem?_append_left ci] at ha
      rw [List.getElem?_append_right (by omega)] at hb
      have := hsep i a g ha e1
      have := hge _ b hb e2
      omega
    · rw [List.getElem?_append_right (by omega)] at ha
      rw [List.getElem?_append_left cj] at hb
      have := hsep j b g hb e2
      have := hge _ a ha e1
      omega
    · rw [List.getElem?_append_right (by omega)] at ha hb
      exact h2.apart _ _ a b g (by omega) ha hb e1 e2
  · obtain ⟨u, e, hu⟩ := hget j h
    obtain ⟨L, q1, q2⟩ := hown j u hu
    rw [e]
    show lenV u ≤ _
    rw [own_len q1]
    exact q2
theorem parF_few (L : List By) : ∀ (k : Nat) (C : List Cx) (l i : Nat), parF k C L = .bad l i → i ≤ 2 := by
  induction L with
  | nil => intro k C l i h; cases h
  | cons b r ih =>
    intro k C l i h
    have h2 : (match stepP k C b with | .ok C1 => parF (k + 1) C1 r | .bad l i => .bad l i) = .bad l i := h
    cases hs : stepP k C b with
    | ok C1 => rw [hs] at h2; exact ih _ _ _ _ h2
    | bad l' i' =>
      rw [hs] at h2
      have h3 : PRes.bad l' i' = .bad l i := h2
      injection h3 with _ h3
      subst h3
      unfold stepP at hs
      split at hs
      · cases hs
      · split at hs
        · injection hs with _ hs; omega
        · split at hs
          · split at hs
            · injection hs with _ hs; omega
            · cases hs
          · injection hs with _ hs; omega
end Go.Proofs.YtcbepmjojppokaaGreatDoor.Tp
namespace Go.Proofs.YtcbepmjojppokaaGreatDoor.Tp
open Go.RowKit Go.Shelf
theorem own_neT {W : World} {lo t s n : Nat} {v : Value} {xs : List Value} (h : W.ownsRow lo t s v n xs) {g : Nat} (e : v.ownBlock = some g) {cs : Array Value} {t' : TypeId} (h' : W.heap[g]? = some (.cells cs t' (0, 0))) : t = t' := by
  obtain ⟨c1, q1⟩ := own_typed h e
  rw [q1] at h'
  injection h' with h'
  injection h' with _ h'
theorem caseInt' : (50 : TypeId) ≠ 3 := by decide
theorem ag {W W' : World} {lo : Nat} (h : Below W.heap.size W W') : Agree W W' lo := ⟨h.size, fun k _ hk => h.block k hk⟩
/-- What stands behind the append of both lists. -/
structure Bth (w x1 x2 x3 x8 : World) (a1 a2 a3 : Option Addr) (c1 c2 c3 : Nat) (VS1 VS2 VS3 : List Value) (C : List Cx) : Prop where
  p1 : PC x8 w.heap.size (.slice a1 C.length c1) VS1 C
  p2 : PC x8 x1.heap.size (.slice a2 C.length c2) VS2 C
  p3 : PC x3 x2.heap.size (.slice a3 C.length c3) VS3 C
  l1 : ∀ (j : Nat) (u : Value) (g : Nat), VS1[j]? = some u → u.ownBlock = some g → g < x1.heap.size
  l2 : ∀ (j : Nat) (u : Value) (g : Nat), VS2[j]? = some u → u.ownBlock = some g → g < x2.heap.size
  b1 : ∀ g, (Value.slice a1 C.length c1).ownBlock = some g → g < x1.heap.size
  b2 : ∀ g, (Value.slice a2 C.length c2).ownBlock = some g → x1.heap.size ≤ g ∧ g < x2.heap.size
  s1 : w.heap.size ≤ x1.heap.size
  s2 : x1.heap.size ≤ x2.heap.size
  s8 : x3.heap.size ≤ x8.heap.size
  k3 : ∀ k, x2.heap.size ≤ k → k < x3.heap.size → x8.heap[k]? = x3.heap[k]?
  be : Below w.heap.size w x8
theorem Bth.apart {w x1 x2 x3 x8 : World} {a1 a2 a3 : Option Addr} {c1 c2 c3 : Nat} {VS1 VS2 VS3 : List Value} {C : List Cx} (h : Bth w x1 x2 x3 x8 a1 a2 a3 c1 c2 c3 VS1 VS2 VS3 C) (hn : C.length ≤ 20000) (hS : ∀ x ∈ C, x.1.length ≤ 2000000 ∧ x.2.length ≤ 2000000) {lo : Nat} {a8 : Option Addr} {c8 : Nat}
    (o8 : x8.ownsRow lo 48 1 (.slice a8 (C.length * 2 + C.length * 2) c8) (C.length * 2 + C.length * 2) (VS1 ++ VS2)) :
    Calls Tryz.prog 11 #[.slice a8 (C.length * 2 + C.length * 2) c8] x8 fun e w' => e = .returned (.bool true) ∧ Hid (Kp x8 w' w.heap.size (lsV (VS1 ++ VS2))) := by
  have hl1 : VS1.length = C.length * 2 := h.p1.own.1
  have hl2 : VS2.length = C.length * 2 := h.p2.own.1
  have hvl : (lsV (VS1 ++ VS2)).length = C.length * 2 + C.length * 2 := by unfold lsV; rw [List.length_map, List.length_append, hl1, hl2]
  obtain ⟨q1, q2, q3⟩ := both_own h.p1 h.p2 h.s1 hS h.l1
  have hget : ∀ j (hj : j < (lsV (VS1 ++ VS2)).length), (lsV (VS1 ++ VS2))[j].1 = (VS1 ++ VS2)[j]'(by rw [hvl] at hj; rw [List.length_append]; omega) := fun j hj => congrArg Prod.fst (List.getElem_map (f := fun v => (v, lenV v)) (l := VS1 ++ VS2) (i := j))
  rw [← hvl] at o8 ⊢
  by_cases h0 : 0 < (lsV (VS1 ++ VS2)).length
  · obtain ⟨g, cap, e, _⟩ := own_form o8 h0
    cases e
    refine apart_any _ w.heap.size g c8 (lsV (VS1 ++ VS2)) x8 (by omega) h.be.size (fun _ => (World.ownsRow.lt o8 g rfl).2) (fun j hj e => ?_) (fun j hj => ?_) q1 q2 q3 (fun _ => rfl)
    · obtain ⟨xs, hx⟩ := q1 j hj
      obtain ⟨cs, hc⟩ := own_typed o8 (g := g) rfl
      exact intsInt (own_neT hx e hc).symm
    · rw [World.ownsRow.cellAt o8 j (by omega), List.getElem?_eq_getElem (by rw [List.length_append]; omega), hget j hj]
  · exact apart_any _ w.heap.size 0 c8 (lsV (VS1 ++ VS2)) x8 (by omega) h.be.size (fun h => absurd h h0) (fun j hj => absurd (by omega) h0) (fun j hj => absurd (by omega) h0) q1 q2 q3 (fun h => absurd h h0)
theorem Bth.no {w x1 x2 x3 x8 : World} {a1 a2 a3 : Option Addr} {c1 c2 c3 : Nat} {VS1 VS2 VS3 : List Value} {C : List Cx} (h : Bth w x1 x2 x3 x8 a1 a2 a3 c1 c2 c3 VS1 VS2 VS3 C) (k : Nat) (hk : x2.heap.size ≤ k ∨ ∃ cs, x8.heap[k]? = some (.cells cs 50 (0, 0))) : ∀ j (hj : j < (lsV (VS1 ++ VS2)).length), (lsV (VS1 ++ VS2))[j].1.ownBlock ≠ some k := fun j hj e => by
  have h' : j < (VS1 ++ VS2).length := by unfold lsV at hj; rwa [List.length_map] at hj
  have hget : (lsV (VS1 ++ VS2))[j].1 = (VS1 ++ VS2)[j] := congrArg Prod.fst (List.getElem_map (f := fun v => (v, lenV v)) (l := VS1 ++ VS2) (i := j))
  rw [hget] at e
  have hu : (VS1 ++ VS2)[j]? = some (VS1 ++ VS2)[j] := List.getElem?_eq_getElem h'
  have hB : ∃ B, ∀ x ∈ C, x.1.length ≤ B ∧ x.2.length ≤ B := by
    have : ∀ (D : List Cx), ∃ B, ∀ x ∈ D, x.1.length ≤ B ∧ x.2.length ≤ B := by
      intro D
      induction D with
      | nil => exact ⟨0, fun x hx => by cases hx⟩
      | cons y r ih =>
        obtain ⟨B, hB⟩ := ih
        refine ⟨B + y.1.length + y.2.length, fun x hx => ?_⟩
        rcases List.mem_cons.1 hx with rfl | hx
        · omega
        · have := hB x hx; omega
    exact this C
  obtain ⟨B, hB⟩ := hB
  have hint : ∃ L lo, OwnI x8 lo (VS1 ++ VS2)[j] L := by
    by_cases c : j < VS1.length
    · rw [List.getElem?_append_left c] at hu
      obtain ⟨L, q, _⟩ := pc_entry h.p1 hB hu
      exact ⟨L, _, q⟩
    · rw [List.getElem?_append_right (by omega)] at hu
      obtain ⟨L, q, _⟩ := pc_entry h.p2 hB hu
      exact ⟨L, _, q⟩
  rcases hk with hk | ⟨cs, hk⟩
  · by_cases c : j < VS1.length
    · rw [List.getElem?_append_left c] at hu
      have := h.l1 j _ k hu e
      have := h.s2
      omega
    · rw [List.getElem?_append_right (by omega)] at hu
      have := h.l2 _ _ k hu e
      omega
  · obtain ⟨L, lo, q⟩ := hint
    exact caseInt' (own_neT q e hk).symm
theorem Bth.outer {w x1 x2 x3 x8 x9 : World} {a1 a2 a3 : Option Addr} {c1 c2 c3 : Nat} {VS1 VS2 VS3 : List Value} {C : List Cx} (h : Bth w x1 x2 x3 x8 a1 a2 a3 c1 c2 c3 VS1 VS2 VS3 C) (hn : C.length ≤ 20000) (hK : Kp x8 x9 w.heap.size (lsV (VS1 ++ VS2))) :
    Calls Tryz.prog 12 #[.slice a1 C.length c1, .slice a2 C.length c2] x9 fun e w' => e = .returned (.bool true) ∧ Hid (PC w' x2.heap.size (.slice a3 C.length c3) VS3 C ∧ Below w.heap.size w w') := by
  have hk : ∀ {lo : Nat} {v : Value} {n : Nat} {xs : List Value}, x8.ownsRow lo 50 2 v n xs → x9.ownsRow lo 50 2 v n xs := fun ho => own_blk ho (fun k hk => hK.kp k (World.ownsRow.lt ho k hk).2 (h.no k (.inr (own_typed ho hk))))
  refine (outer_any w.heap.size C.length C.length _ _ VS1 VS2 x9 (hk h.p1.own) (owns_lower (hk h.p2.own) h.s1) (fun g e1 e2 => by have := h.b1 g e1; have := h.b2 g e2; omega) (by omega) (by omega) (Nat.le_trans h.be.size hK.sz)).mono ?_
  rintro e w' ⟨rfl, ho⟩
  refine ⟨rfl, hid0 ⟨h.p3.agree ⟨Nat.le_trans h.s8 (Nat.le_trans hK.sz ho.out.size), fun k h1 h2 => ?_⟩, ?_⟩⟩
  · rw [ho.out.block k (Nat.lt_of_lt_of_le h2 (Nat.le_trans h.s8 hK.sz)) (fun e => ?_), hK.kp k (Nat.lt_of_lt_of_le h2 h.s8) (h.no k (.inl h1)), h.k3 k h1 h2]
    rcases e with e | e
    · have := h.b1 k e; have := h.s2; omega
    · have := h.b2 k e; omega
  · exact (h.be.trans hK.bel).trans (ho.out.below (Nat.le_trans h.be.size hK.sz) (fun k e => by
      rcases e with e | e
      · exact (World.ownsRow.lt h.p1.own k e).1
      · have := h.b2 k e; have := h.s1; omega))
set_option maxRecDepth 10000 in
set_option maxHeartbeats 3200000 in
/-- The law's walk, where both Parses answer the same cases. -/
theorem parses_same (RS : ByteArray) (C : List Cx) (LN NUM : Int) (EV : Value) (A : Nat → Addr) (w : World) (hE : EnvT w A) (hn : C.length ≤ 20000) (hS : ∀ x ∈ C, x.1.length ≤ 2000000 ∧ x.2.length ≤ 2000000)
    (hPa : ∀ V, Below w.heap.size w V → Calls Tryz.prog 6 #[.string RS] V fun e w' => ∃ a c VS, e = .returned (.tuple #[.slice a C.length c, .int .i64 LN, EV]) ∧ Hid (PC w' V.heap.size (.slice a C.length c) VS C ∧ Below V.heap.size V w'))
    (hPd : ∀ V, Below w.heap.size w V → Calls Tryz.prog 7 #[.string RS] V fun e w' => ∃ a c VS, e = .returned (.tuple #[.slice a C.length c, .int .i64 LN, .int .i64 NUM]) ∧ Hid (PC w' V.heap.size (.slice a C.length c) VS C ∧ Below V.heap.size V w'))
    (hNum : ∀ V, Below w.heap.size w V → Calls Tryz.prog 9 #[EV] V fun e w' => e = .returned (.int .i64 NUM) ∧ w' = V) :
    Calls Tryz.prog 3 #[.string RS] w fun e w' => e = .returned (.bool true) ∧ Hid (Below w.heap.size w w') := by
  have HPa := hid0 hPa
  have HPd := hid0 hPd
  have HNum := hid0 hNum
  have HS := hid0 hS
  have hC2 : ∀ x ∈ C, x.1.length ≤ 1000000000 ∧ x.2.length ≤ 1000000000 := fun x hx => by have := hS x hx; omega
  have HSm : Hid (∀ (W1 W2 V : World) (l1 l2 : Nat) (a b : Option Addr) (ca cb : Nat) (VSa VSb : List Value), PC W1 l1 (.slice a C.length ca) VSa C → PC W2 l2 (.slice b C.length cb) VSb C → Agree W1 V l1 → Agree W2 V l2 → Calls Tryz.prog 8 #[.slice a C.length ca, .slice b C.length cb] V fun e w' => e = .returned (.bool true) ∧ Hid (Below V.heap.size V w')) := hid0 (fun W1 W2 V l1 l2 a b ca cb VSa VSb h1 h2 g1 g2 => by
    obtain ⟨a', c', e1, k1⟩ := pc_csa (h1.agree g1)
    obtain ⟨b', d', e2, k2⟩ := pc_csa (h2.agree g2)
    cases e1
    cases e2
    exact sameCases_any C a b ca cb V (by omega) hC2 k1 k2)
  have HLi : Hid (∀ (W1 V : World) (l1 : Nat) (a : Option Addr) (ca : Nat) (VS : List Value), PC W1 l1 (.slice a C.length ca) VS C → Agree W1 V l1 → Calls Tryz.prog 10 #[.slice a C.length ca] V fun e w' => ∃ b cc, e = .returned (.slice b (C.length * 2) cc) ∧ Hid (w'.ownsRow V.heap.size 48 1 (.slice b (C.length * 2) cc) (C.length * 2) VS ∧ Below V.heap.size V w')) := hid0 (fun W1 V l1 a ca VS h1 g1 => by
    have h2 := h1.agree g1
    have hl : VS.length = C.length * 2 := h2.own.1
    by_cases h0 : 0 < C.length
    · obtain ⟨g, cap, e, _⟩ := own_form h2.own h0
      injection e with e1 _ e3
      subst e1
      exact lists_any (some ⟨g, 0, none⟩) g C.length ca VS V (by omega) hl (fun _ => rfl) (fun j hj => by rw [World.ownsRow.cellAt h2.own j (by omega), List.getElem?_eq_getElem]) (pc_slice h2)
    · exact lists_any a 0 C.length ca VS V (by omega) hl (fun h => absurd h h0) (fun j hj => by omega) (pc_slice h2))
  have HE := hid0 hE
  clear hPa hPd hNum hS hC2 hE
  go_enter Tryz.func3, Tryz.ntmps3
  have HP1 := HPa
  have HP2 := HPa
  have HS1 := HSm
  have HS2 := HSm
  have HL1 := HLi
  have HN20 := hn
  have HP3 := HPa
  have HS3 := HSm
  have HL2 := HLi
  have HN := hid0 hn
  go_wp2_with (first
    | (go_at_call 6; have q := HP1.out; clear HP1; refine (q _ (Below.refl _ _)).mono ?_; clear q; rintro e x1 ⟨a1, c1, VS1, rfl, h1⟩; have B1 := hid0 h1.out.2)
    | (go_at_call 6; have q := HP2.out; clear HP2; refine (q _ B1.out).mono ?_; clear q; rintro e x2 ⟨a2, c2, VS2, rfl, h2⟩; have B2 := hid0 (B1.out.trans (h2.out.2.mono B1.out.size)))
    | (go_at_call 7; refine (HPd.out _ B2.out).mono ?_; rintro e x3 ⟨a3, c3, VS3, rfl, h3⟩; have B3 := hid0 (B2.out.trans (h3.out.2.mono B2.out.size)); have T13 := hid0 (h2.out.2.trans (h3.out.2.mono h2.out.2.size)))
    | (go_at_call 8; have q := HS1.out; clear HS1; refine (q x1 x3 _ _ _ _ _ _ _ _ _ h1.out.1 h3.out.1 (ag T13.out) (ag (Below.refl _ _))).mono ?_; clear q; rintro e x4 ⟨rfl, h4⟩; have B4 := hid0 (B3.out.trans (h4.out.mono B3.out.size)))
    | (go_at_call 8; have q := HS2.out; clear HS2; refine (q x2 x3 _ _ _ _ _ _ _ _ _ h2.out.1 h3.out.1 (ag (h3.out.2.trans (h4.out.mono h3.out.2.size))) (ag h4.out)).mono ?_; clear q; rintro e x5 ⟨rfl, h5⟩; have B5 := hid0 (B4.out.trans (h5.out.mono B4.out.size)); have T35 := hid0 (h4.out.trans (h5.out.mono h4.out.size)))
    | (go_at_call 9; refine (HNum.out _ B5.out).mono ?_; rintro e x6 ⟨rfl, rfl⟩)
    | (go_at_call 10; have q := HL1.out; clear HL1; refine (q x1 _ _ _ _ _ h1.out.1 (ag (T13.out.trans (T35.out.mono T13.out.size)))).mono ?_; clear q; rintro e x6 ⟨b6, cc6, rfl, h6⟩; have T26 := hid0 (h3.out.2.trans ((T35.out.trans (h6.out.2.mono T35.out.size)).mono h3.out.2.size)))
    | (go_at_call 10; have q := HL2.out; clear HL2; refine (q x2 _ _ _ _ _ h2.out.1 (ag T26.out)).mono ?_; clear q; rintro e x7 ⟨b7, cc7, rfl, h7⟩
       have T37 := hid0 (T35.out.trans ((h6.out.2.trans (h7.out.2.mono h6.out.2.size)).mono T35.out.size))
       have B7 := hid0 (B3.out.trans (T37.out.mono B3.out.size))
       have HL1' := hid0 h1.out.1.own.1
       have HL2' := hid0 h2.out.1.own.1
       have HSL := hid0 (pc_slice h2.out.1)
       have hS7 := B7.out.size
       have hS67 := h7.out.2.size
       have hS56 := h6.out.2.size)
    | (at_builtin; refine wpList_spreadR (by rfl) _ _ (by rfl) (.slice b6 (C.length * 2) cc6) (.slice b7 (C.length * 2) cc7) VS1 VS2 _ _ (C.length * 2) (C.length * 2) (by rfl) (by rfl) HL1'.out.symm HL2'.out.symm (own_blk h6.out.1 (fun k hk => h7.out.2.block k (World.ownsRow.lt h6.out.1 k hk).2)) h7.out.1 (fun u hu => by obtain ⟨j, hj, rfl⟩ := List.getElem_of_mem hu; obtain ⟨_, _, _, e⟩ := HSL.out j hj; rw [e]; rfl) (by rw [HL1'.out, HL2'.out]; omega) (by omega) ?_
       intro v8 x8 o8 q8
       obtain ⟨a8, c8, rfl⟩ := own_slC o8
       have HB8 : Hid (Bth w x1 x2 x3 x8 a1 a2 a3 c1 c2 c3 VS1 VS2 VS3 C) := hid0 (by
         have t13 := T13.out
         have t23 := h3.out.2
         have t37 := T37.out
         have hr : ∀ k, (Value.slice b6 (C.length * 2) cc6).ownBlock = some k → x3.heap.size ≤ k := fun k hk => Nat.le_trans T35.out.size (World.ownsRow.lt h6.out.1 k hk).1
         have k8 : ∀ k, k < x3.heap.size → x8.heap[k]? = x3.heap[k]? := fun k hk => (q8.block k (Nat.lt_of_lt_of_le hk t37.size) (fun e => by have := hr k e; omega)).trans (t37.block k hk)
         have s8 : x3.heap.size ≤ x8.heap.size := Nat.le_trans t37.size q8.size
         exact ⟨h1.out.1.agree ⟨Nat.le_trans t13.size s8, fun k _ hk => (k8 k (Nat.lt_of_lt_of_le hk t13.size)).trans (t13.block k hk)⟩, h2.out.1.agree ⟨Nat.le_trans t23.size s8, fun k _ hk => (k8 k (Nat.lt_of_lt_of_le hk t23.size)).trans (t23.block k hk)⟩, h3.out.1, fun j u g => h1.out.1.lt j u g, fun j u g => h2.out.1.lt j u g, fun g e => (World.ownsRow.lt h1.out.1.own g e).2, fun g e => World.ownsRow.lt h2.out.1.own g e, B1.out.size, h2.out.2.size, s8, fun k _ hk => k8 k hk, B7.out.trans (q8.below B7.out.size (fun k hk => Nat.le_trans B3.out.size (hr k hk)))⟩)
       have HAp := hid0 (HB8.out.apart HN.out HS.out o8)
       clear o8 q8)
    | (go_at_call 11; refine HAp.out.mono ?_; rintro e x9 ⟨rfl, h9⟩)
    | (go_at_call 12; refine (HB8.out.outer HN.out h9.out).mono ?_; rintro e x10 ⟨rfl, h10⟩)
    | (go_at_call 6; have q := HP3.out; clear HP3; refine (q _ h10.out.2).mono ?_; clear q; rintro e x11 ⟨a4, c4, VS4, rfl, h11⟩)
    | (go_at_call 8; have q := HS3.out; clear HS3; refine (q x11 x10 _ _ _ _ _ _ _ _ _ h11.out.1 h10.out.1 (ag (Below.refl _ _)) (ag h11.out.2)).mono ?_; clear q; rintro e x12 ⟨rfl, h12⟩)
    | fail)
  go_ret
  exact ⟨rfl, hid0 ((h10.out.2.trans (h11.out.2.mono h10.out.2.size)).trans (h12.out.mono (Nat.le_trans h10.out.2.size h11.out.2.size)))⟩
end Go.Proofs.YtcbepmjojppokaaGreatDoor.Tp
namespace Go.Proofs.YtcbepmjojppokaaGreatDoor.Tp
open Go.RowKit Go.Shelf
theorem testParses_any (s : By) (A : Nat → Addr) (w : World) (hE : EnvT w A) :
    Calls Tryz.prog 3 #[.string (rd s)] w fun e w' => e = .returned (.bool true) ∧ Hid (Below w.heap.size w w') := by
  have hpa := fun V (hV : Below w.heap.size w V) => parse_any s A V (hE.below hV).s (hE.below hV).y (hE.below hV).t
  have hpd := fun V (_ : Below w.heap.size w V) => refParse_any s V
  by_cases hl : 1048576 < s.length
  · refine parses_same (rd s) [] 0 3 (errI (A 2)) A w hE (by simp) (fun x hx => by cases hx) (fun V hV => (hpa V hV).mono (fun e w' h => ?_)) (fun V hV => (hpd V hV).mono (fun e w' h => ?_)) (fun V hV => kitNum_at V A (hE.below hV).s 2 (by decide))
    · have h1 := h.out
      unfold GoP at h1
      rw [if_pos hl] at h1
      exact ⟨none, 0, [], h1.1, hid0 ⟨PC.nil _ _, h1.2⟩⟩
    · have h1 := h.out
      unfold DoP at h1
      rw [if_pos hl] at h1
      exact ⟨none, 0, [], h1.1, hid0 ⟨PC.nil _ _, h1.2⟩⟩
  · cases hp : parF 0 [] ((rawL s).map bareN) with
    | bad k i =>
      have hi := parF_few _ _ _ _ _ hp
      refine parses_same (rd s) [] (k : Int) ((i : Int) + 1) (errI (A i)) A w hE (by simp) (fun x hx => by cases hx) (fun V hV => (hpa V hV).mono (fun e w' h => ?_)) (fun V hV => (hpd V hV).mono (fun e w' h => ?_)) (fun V hV => ?_)
      · have h1 := h.out
        unfold GoP at h1
        rw [if_neg hl, hp] at h1
        exact ⟨none, 0, [], h1.1, hid0 ⟨PC.nil _ _, h1.2⟩⟩
      · have h1 := h.out
        unfold DoP at h1
        rw [if_neg hl, hp] at h1
        exact ⟨none, 0, [], h1.1, hid0 ⟨PC.nil _ _, h1.2⟩⟩
      · have h2 := kitNum_at V A (hE.below hV).s i (by omega)
        have hr : refNo i = (i : Int) + 1 := by
          have : i = 0 ∨ i = 1 ∨ i = 2 := by omega
          rcases this with rfl | rfl | rfl <;> rfl
        rw [hr] at h2
        exact h2
    | ok C =>
      obtain ⟨h20, _⟩ := read_short s C hp
      have hSz := read_sizes s C (by omega) hp
      refine parses_same (rd s) C 0 0 .nilIface A w hE h20 (fun x hx => by have := hSz x hx; omega) (fun V hV => (hpa V hV).mono (fun e w' h => ?_)) (fun V hV => (hpd V hV).mono (fun e w' h => ?_)) (fun V _ => kitNum_nil V)
      · have h1 := h.out
        unfold GoP at h1
        rw [if_neg hl, hp] at h1
        obtain ⟨v, VS, e1, h2, h3⟩ := h1
        obtain ⟨a, c, rfl⟩ := own_slC h2.own
        exact ⟨a, c, VS, e1, hid0 ⟨h2, h3⟩⟩
      · have h1 := h.out
        unfold DoP at h1
        rw [if_neg hl, hp] at h1
        obtain ⟨v, VS, e1, h2, h3⟩ := h1
        obtain ⟨a, c, rfl⟩ := own_slC h2.own
        exact ⟨a, c, VS, e1, hid0 ⟨h2, h3⟩⟩
end Go.Proofs.YtcbepmjojppokaaGreatDoor.Tp
namespace Go.Proofs.YtcbepmjojppokaaGreatDoor.Tp
open Go.ChangeShapes Go.WideShapes Go.ChangeAt Go.RowKit Go.Joins
theorem cellsInt : Tryz.prog.cellsOf 3 = 1 := by kernel_rfl
theorem cellsInts : Tryz.prog.cellsOf 48 = 1 := by kernel_rfl
theorem cellsCase : Tryz.prog.cellsOf 50 = 2 := by kernel_rfl
theorem bulk_one {H : Type} (d : DataW H) : 1 ≤ Rows.uptoBulk d := by
  cases d with
  | lit l => cases l <;> simp [Rows.uptoBulk]
  | nil => simp [Rows.uptoBulk]
  | ptr d => simp [Rows.uptoBulk]
  | slice elems spare => simp [Rows.uptoBulk]
  | agg parts => simp [Rows.uptoBulk]
  | iface t d => simp [Rows.uptoBulk]
  | map entries => simp [Rows.uptoBulk]
  | held h => simp [Rows.uptoBulk]
theorem bulk_all {H : Type} (l : List (DataW H)) : Rows.uptoBulkAll l = (l.map Rows.uptoBulk).sum := by
  induction l with
  | nil => simp [Rows.uptoBulkAll]
  | cons x r ih => rw [Rows.uptoBulkAll, ih, List.map_cons, List.sum_cons]
theorem bulk_lits {H : Type} (zs : List Int) : zs.length ≤ Rows.uptoBulkAll (H := H) (lits .i64 zs) := by
  induction zs with
  | nil => simp [lits]
  | cons z zs ih =>
    have e : (lits (H := H) .i64 (z :: zs)) = .lit (.int .i64 z) :: lits .i64 zs := rfl
    rw [e, Rows.uptoBulkAll, List.length_cons]
    have h1 : 1 ≤ Rows.uptoBulk (H := H) (.lit (.int .i64 z)) := bulk_one _
    omega
theorem lt_of_cell {W : World} {b o : Nat} {u : Value} (h : W.cell? ⟨b, o, none⟩ = some u) : b < W.heap.size := World.block_lt_of_cell? W _ h
theorem no_spot {W : World} {a : Addr} {u : Value} (h : W.cell? (a.add 0) = some u) : a.spot = none := by
  obtain ⟨b, off, spot⟩ := a
  cases spot with
  | none => rfl
  | some sp =>
    exfalso
    rw [show (⟨b, off, some sp⟩ : Addr).add 0 = ⟨b, off, some sp⟩ from rfl] at h
    unfold World.cell? at h
    split at h <;> simp at h
/-- Numbers that are read. -/
theorem open_points {H : Type} {enc : TypeId × Value → H} {W : World} {n : Nat} {c : Value} {x : DataW H × List MemPlace} (hf : DataW.trod enc Tryz.prog W 0 (fun _ => true) true n 48 [c] = some x) :
    ∃ (a : Option Addr) (ps : List Int) (cap : Nat), c = .slice a ps.length cap ∧ IA W a ps ∧ ps.length ≤ Rows.uptoBulk x.1 ∧ (a = none → cap = 0) := by
  rcases open_ints Tryz.underlying48 Tryz.underlying3 cellsInt hf with ⟨h1, h2⟩ | ⟨a, len, cap, zs, h1, h2, h3, h4, h5, h6, h7, h8⟩
  · simp only [List.cons.injEq, and_true] at h1
    exact ⟨none, [], 0, h1, ⟨fun k h => absurd h (Nat.not_lt_zero _)⟩, by simp, fun _ => rfl⟩
  · simp only [List.cons.injEq, and_true] at h1
    simp only [if_true] at h5
    have hl : (zs.take len).length = len := by rw [List.length_take]; omega
    have hb := bulk_lits (H := H) (zs.take len)
    refine ⟨some a, zs.take len, cap, by rw [hl]; exact h1, ⟨fun k hk' => ?_⟩, ?_, fun e => by cases e⟩
    · rw [hl] at hk'
      have h9 := h7 k (by omega)
      have hs := no_spot (h7 0 (by omega))
      obtain ⟨b, off, spot⟩ := a
      simp only at hs
      subst hs
      rw [Addr.add_lit] at h9
      refine ⟨b, off, rfl, lt_of_cell h9, ?_⟩
      rw [h9]
      congr 2
      rw [List.getElem_take, List.getD_eq_getElem?_getD, List.getElem?_eq_getElem (by omega)]
      rfl
    · rw [h6]
      simp only [Rows.uptoBulk]
      omega
theorem range_getD : ∀ (l : List Nat), (List.range l.length).map (fun i => l.getD i 0) = l := fun l => by
  refine List.ext_getElem (by simp) (fun i h1 h2 => ?_)
  rw [List.getElem_map, List.getElem_range, List.getD_eq_getElem?_getD, List.getElem?_eq_getElem h2]
  rfl
/-- A slice that is read: the cells of each of its elements; their bulks together. -/
theorem open_rows {H : Type} {enc : TypeId × Value → H} {W : World} {t e : TypeId} {m : Nat} {n : Nat} {c : Value} {x : DataW H × List MemPlace} (ht : Tryz.prog.underlying t = some (.slice e)) (hm : Tryz.prog.cellsOf e = m) (hm0 : 0 < m)
    (h : DataW.trod enc Tryz.prog W 0 (fun _ => true) true n t [c] = some x) :
    c = .slice none 0 0 ∨ ∃ (a : Addr) (len cap k : Nat) (D : Nat → Nat), c = .slice (some a) len cap ∧ ((List.range len).map D).sum ≤ Rows.uptoBulk x.1 ∧ ∀ i, i < len → ∃ (cs : List Value) (y : DataW H × List MemPlace), cs.length = m ∧ a = ⟨a.block, a.off, none⟩ ∧ (∀ j, j < m → W.cell? ⟨a.block, a.off + i * m + j, none⟩ = cs[j]?) ∧ DataW.trod enc Tryz.prog W 0 (fun _ => true) true k e cs = some y ∧ Rows.uptoBulk y.1 = D i := by
  rcases DataW.trod_slice ht h with ⟨h0, _⟩ | ⟨a, len, cap, elems, rest, k, hk, hc, hx, hb, hl, hmx, hlen, hel, _, _⟩
  · simp only [List.cons.injEq, and_true] at h0
    exact .inl h0
  · simp only [List.cons.injEq, and_true] at hc
    rw [hm] at hel
    subst hlen
    have key : ∀ i (hi : i < elems.length), ∃ cs, W.cells? 0 (a.add (i * m)) m = some cs ∧ DataW.trod enc Tryz.prog W 0 (fun _ => true) true k e cs = some elems[i] := fun i hi => by
      have h1 := hel i hi
      rw [List.getElem?_eq_getElem (by omega), Option.bind_eq_some_iff] at h1
      exact h1
    refine .inr ⟨a, elems.length, cap, k, fun i => (elems.map fun y => Rows.uptoBulk y.1).getD i 0, hc, ?_, fun i hi => ?_⟩
    · have e1 := range_getD (elems.map fun y => Rows.uptoBulk y.1)
      rw [List.length_map] at e1
      rw [e1, hx]
      simp only [Rows.uptoBulk]
      rw [bulk_all, List.map_map]
      have e2 : (elems.map fun y => Rows.uptoBulk y.1) = elems.map (Rows.uptoBulk ∘ fun y => y.1) := rfl
      rw [e2]
      omega
    obtain ⟨cs, h1, h2⟩ := key i hi
    obtain ⟨cs0, g1, _⟩ := key 0 (by omega)
    obtain ⟨_, hl0, hc0⟩ := World.cells?_some g1
    have hsp : a.spot = none := by
      have q := hc0 0 (by omega)
      rw [Deep.add_add, List.getElem?_eq_getElem (by omega)] at q
      exact World.cell?_spot (a := a.add 0) (by simpa using q)
    obtain ⟨_, hlc, hcc⟩ := World.cells?_some h1
    obtain ⟨ab, ao, asp⟩ := a
    simp only at hsp
    subst hsp
    refine ⟨cs, elems[i], hlc, rfl, fun j hj => ?_, h2, ?_⟩
    · have q := hcc j hj
      rw [Deep.add_add, WideShapes.add_plain] at q
      rw [Nat.add_assoc]
      exact q
    · show _ = (elems.map fun y => Rows.uptoBulk y.1).getD i 0
      rw [List.getD_eq_getElem?_getD, List.getElem?_map, List.getElem?_eq_getElem hi]
      rfl
theorem le_sum {l : List Nat} {x : Nat} (h : x ∈ l) : x ≤ l.sum := by
  induction l with
  | nil => cases h
  | cons y r ih =>
    rw [List.sum_cons]
    rcases List.mem_cons.1 h with rfl | h
    · omega
    · have := ih h; omega
/-- One case that is read: its two cells. -/
def CaseAt (W : World) (b off : Nat) (x : Cs) : Prop := ∃ (aP aB : Option Addr) (cP cB : Nat), W.cell? ⟨b, off, none⟩ = some (.slice aP x.1.length cP) ∧ W.cell? ⟨b, off + 1, none⟩ = some (.slice aB x.2.length cB) ∧ IA W aP x.1 ∧ IA W aB x.2
set_option maxRecDepth 100000 in
/-- Cases that are read. -/
theorem open_cases {H : Type} {enc : TypeId × Value → H} {W : World} {n : Nat} {c : Value} {x : DataW H × List MemPlace} (h : DataW.trod enc Tryz.prog W 0 (fun _ => true) true n 22 [c] = some x) (hbk : Rows.uptoBulk x.1 ≤ 1048576) :
    ∃ (a : Option Addr) (C : List Cs) (cap : Nat), c = .slice a C.length cap ∧ CsA W a C ∧ C.length ≤ 1048576 ∧ ∀ y ∈ C, y.1.length ≤ 1048576 ∧ y.2.length ≤ 1048576 := by
  rcases open_rows Tryz.underlying22 cellsCase (by omega) h with rfl | ⟨a, len, cap, k, D, rfl, hb, hx⟩
  · exact ⟨none, [], 0, rfl, ⟨fun k h => absurd h (Nat.not_lt_zero _)⟩, by simp, by simp⟩
  · have hD : ∀ i, i < len → D i ≤ 1048576 := fun i hi => by
      have := le_sum (List.mem_map_of_mem (f := D) (List.mem_range.2 hi))
      omega
    obtain ⟨T, hT⟩ := Deep.choose_lt (n := len) (p := fun i (z : Cs) => a = ⟨a.block, a.off, none⟩ ∧ CaseAt W a.block (a.off + i * 2) z ∧ z.1.length ≤ 1048576 ∧ z.2.length ≤ 1048576 ∧ 1 ≤ D i) (fun i hi => by
      obtain ⟨cs, y, h1, h2, h3, h4, h5⟩ := hx i hi
      have hDi := hD i hi
      obtain ⟨ss, k2, _, hxs, _, hxl, hfs⟩ := DataW.trod_struct Tryz.underlying50 h4
      match cs, h1 with
      | [v0, v1], _ =>
        obtain ⟨y0, y1, rfl⟩ : ∃ y0 y1, ss = [y0, y1] := by
          match ss, hxl with
          | [y0, y1], _ => exact ⟨y0, y1, rfl⟩
        have f0 := hfs 0 _ rfl
        have f1 := hfs 1 _ rfl
        have g0 : DataW.trod enc Tryz.prog W 0 (fun _ => true) true k2 48 [v0] = some y0 := by simpa [cellsInts] using f0
        have g1 : DataW.trod enc Tryz.prog W 0 (fun _ => true) true k2 48 [v1] = some y1 := by simpa [cellsInts] using f1
        obtain ⟨aP, P, cP, rfl, iP, bP, _⟩ := open_points g0
        obtain ⟨aB, B, cB, rfl, iB, bB, _⟩ := open_points g1
        have hd : Rows.uptoBulk y.1 = Rows.uptoBulk y0.1 + Rows.uptoBulk y1.1 + 1 := by
          have := congrArg Prod.fst hxs
          simp only at this
          rw [this]
          simp only [Rows.uptoBulk, Rows.uptoBulkAll, List.map_cons, List.map_nil]
          omega
        refine ⟨(P, B), h2, ⟨aP, aB, cP, cB, h3 0 (by omega), h3 1 (by omega), iP, iB⟩, ?_, ?_, by omega⟩
        · show P.length ≤ 1048576
          omega
        · show B.length ≤ 1048576
          omega)
    have hlen : ((List.range len).map T).length = len := by simp
    refine ⟨some a, (List.range len).map T, cap, by rw [hlen], ⟨fun k hk => ?_⟩, ?_, fun y hy => ?_⟩
    · rw [hlen] at hk
      have et : ((List.range len).map T)[k]'(by rw [hlen]; exact hk) = T k := by simp
      obtain ⟨p1, p2, _⟩ := hT k hk
      obtain ⟨aP, aB, cP, cB, y0, y1, y2, y3⟩ := p2
      rw [et]
      exact ⟨a.block, a.off, aP, aB, cP, cB, congrArg some p1, lt_of_cell y0, y0, y1, y2, y3⟩
    · rw [hlen]
      have e : ∀ (l : List Nat), (∀ i ∈ l, i < len) → l.length ≤ (l.map D).sum := by
        intro l
        induction l with
        | nil => intro _; simp
        | cons x r ih =>
          intro hl
          rw [List.map_cons, List.sum_cons, List.length_cons]
          have h1 := (hT x (hl x List.mem_cons_self)).2.2.2.2
          have h2 := ih (fun i hi => hl i (List.mem_cons_of_mem _ hi))
          omega
      have := e (List.range len) (fun i hi => List.mem_range.1 hi)
      rw [List.length_range] at this
      omega
    · obtain ⟨i, hi, rfl⟩ := List.mem_map.1 hy
      obtain ⟨_, _, h3, h4, _⟩ := hT i (List.mem_range.1 hi)
      exact ⟨h3, h4⟩
theorem laid_tail {W : World} {x : String × DataW Unit} {rest : List (String × DataW Unit)} (h : laidMet Tryz.prog (x :: rest) W) : laidMet Tryz.prog rest W := by
  obtain ⟨ps, ⟨g, t, cs, fuel, p, q, _, _, _, _, hl, rfl⟩, hnd, hrows⟩ := h
  exact ⟨q, hl, (List.nodup_append.1 hnd).2.1, fun b off hb => hrows b off (List.mem_append_right _ hb)⟩
theorem g64 : Tryz.prog.globalNamed "math/bits.deBruijn64tab" = some 20 := by kernel_rfl
theorem g64Type : (Tryz.prog.globals[20]?).map (·.type) = some 197 := by kernel_rfl
theorem cells64 : Tryz.prog.cellsOf 197 = 64 := by kernel_rfl
theorem cellsU8 : Tryz.prog.cellsOf 5 = 1 := by kernel_rfl
def tab64 : List Int := [0, 1, 56, 2, 57, 49, 28, 3, 61, 58, 42, 50, 38, 29, 17, 4, 62, 47, 59, 36, 45, 43, 51, 22, 53, 39, 33, 30, 24, 18, 12, 5, 63, 55, 48, 27, 60, 41, 37, 16, 46, 35, 44, 21, 52, 32, 23, 11, 54, 26, 40, 15, 34, 20, 31, 10, 25, 14, 19, 9, 13, 8, 7, 6]
theorem tab64_at : ∀ j, j < Lib.deBruijn64tab.length → tab64.getD j 0 = ((Lib.deBruijn64tab.getD j 0 : Nat) : Int) := by decide
/-- What the row's list gives: the table's cells. -/
theorem tab_of {W : World} {rest : List (String × DataW Unit)} (h : laidMet Tryz.prog (("math/bits.deBruijn64tab", Rows.laid_math_bits_deBruijn64tab) :: rest) W) : TabAt 20 Lib.deBruijn64tab W := by
  have ht : Lib.TabIs Tryz.prog W "math/bits.deBruijn64tab" .u8 tab64 :=
    Lib.tabIs_of_head (rest := rest) g64 g64Type Tryz.underlying197 Tryz.underlying5 cellsU8 cells64 h
  intro j hj
  have hc := ht.cell g64 j (by have e : tab64.length = Lib.deBruijn64tab.length := rfl; omega)
  rw [hc, tab64_at j hj]
theorem g_Syn : Tryz.prog.globalNamed "strconv.ErrSyntax" = some 17 := by kernel_rfl
theorem synTypes : ∀ x ∈ [("strconv.ErrSyntax", sentText Rows.laid_strconv_ErrSyntax)], ∀ g t, Tryz.prog.globalNamed x.1 = some g → (Tryz.prog.globals[g]?).map (·.type) = some t → t = 24 := by
  have h : ((Tryz.prog.globals[17]?).map (·.type)) = some 24 := by kernel_rfl
  intro x hx g t hg ht
  rw [List.mem_singleton] at hx
  subst hx
  have e : g = 17 := Option.some.inj (hg.symm.trans g_Syn)
  subst e
  exact Option.some.inj (ht.symm.trans h)
theorem syn_of {W : World} {rest : List (String × DataW Unit)} (h : laidMet Tryz.prog (("strconv.ErrSyntax", Rows.laid_strconv_ErrSyntax) :: rest) W) : ∃ ev, W.cell? ⟨17, 0, none⟩ = some ev ∧ (ev = .nilIface ∨ ∃ te pe, ev = .iface te pe) := by
  obtain ⟨ps, hl, hnd, hrows⟩ := h
  obtain ⟨xs, _, _, _, h4⟩ := sents_list rest [("strconv.ErrSyntax", sentText Rows.laid_strconv_ErrSyntax)] ps hl hnd hrows synTypes
  exact ⟨_, h4 0 (by decide) _ g_Syn, .inr ⟨_, _, rfl⟩⟩
theorem ety : Tryz.prog.globalNamed "errors.errorType" = some 7 := by kernel_rfl
theorem rtt : (Tryz.prog.cutTypes.find? (·.1 == "internal/reflectlite.rtype")).map (·.2) = some 101 := by kernel_rfl
theorem typesN : Tryz.prog.types.size = 224 := by kernel_rfl
theorem oneRow : ((List.range 224).filter fun t => Tryz.prog.rowNamed t [101, 114, 114, 111, 114]) = [24] := by kernel_rfl
theorem hErr : typeHandle Tryz.prog 24 = .pointer (some ⟨21, 24, none⟩) := by kernel_rfl
/-- What the condition gives: the variable's one cell. -/
theorem errTy_of {W : World} {hs : List (String × DataW Unit)} (h : handlesMet Tryz.prog (("errors.errorType", Rows.laid_errors_errorType) :: hs) W) : ErrTy W := by
  obtain ⟨name, u, ty, e1, e2, e3, e4, e5⟩ := h _ (List.mem_cons_self)
  have en : name = [101, 114, 114, 111, 114] := (Option.some.inj e1).symm
  subst en
  obtain rfl := Option.some.inj (rtt.symm.trans e2)
  have hm : ty ∈ (List.range 224).filter fun t => Tryz.prog.rowNamed t [101, 114, 114, 111, 114] := List.mem_filter.2 ⟨List.mem_range.2 (by rw [← typesN]; exact e3), e4⟩
  rw [oneRow] at hm
  obtain rfl := List.mem_singleton.1 hm
  rw [hErr] at e5
  unfold ErrTy
  simpa using World.var?_cell ety e5 0
/-- A list without its handles. -/
def dataOf (l : List (String × DataW Unit)) : List (String × DataW Unit) := l.filter fun x => x.2.handleName?.isNone
theorem laid_drop {W : World} : ∀ (n : Nat) (l : List (String × DataW Unit)), laidMet Tryz.prog l W → laidMet Tryz.prog (l.drop n) W
  | 0, _, h => h
  | _ + 1, [], h => h
  | n + 1, _ :: l, h => laid_drop n l (laid_tail h)
/-- A world whose handle is laid. -/
noncomputable def hBase (os : Os) : World :=
  let w0 := World.holding Tryz.prog os ⟨#[], #[], []⟩
  { w0 with heap := w0.heap.modify 7 fun
      | .cells _ t frozen => .cells #[.iface 101 (.agg #[.pointer (some ⟨21, 24, none⟩)])] t frozen
      | o => o }
noncomputable def hWorld (os : Os) (dl : List (String × DataW Unit)) : World := (hBase os).layVars Tryz.prog dl
theorem hWorld_os (os : Os) (dl : List (String × DataW Unit)) : (hWorld os dl).os = os := World.layVars_os _ _ _
theorem hWorld_met {os : Os} {laid dl : List (String × DataW Unit)} (args : Array Value) (hdl : (laid.filter fun x => x.2.handleName?.isNone) = dl)
    (hf : (hBase os).layFits Tryz.prog dl [] = true) (hi : (hBase os).layIfaces Tryz.prog dl (hWorld os dl) = true)
    (hh : (laid.filter fun x => x.2.handleName?.isSome).all (handleAtB Tryz.prog ((hWorld os dl).forCall (fun _ _ => 0) ⟨#[], args, []⟩).memory) = true) :
    laidMetH Tryz.prog laid ((hWorld os dl).forCall (fun _ _ => 0) ⟨#[], args, []⟩).memory := by
  refine laidMetH_of_parts ?_ hh
  rw [hdl]
  have e1 : (dl.filter fun x => (dl.map (·.1)).contains x.1) = dl := List.filter_eq_self.2 fun x hx => List.contains_iff_mem.2 (List.mem_map.2 ⟨x, hx, rfl⟩)
  have e2 : (dl.filter fun x => !(dl.map (·.1)).contains x.1) = [] := List.filter_eq_nil_iff.2 fun x hx => by rw [List.contains_iff_mem.2 (List.mem_map.2 ⟨x, hx, rfl⟩)]; simp
  have h : laidMet Tryz.prog dl (hWorld os dl) := laidMet_layVars (w0 := hBase os) (dl.map (·.1)) [] (by rw [e1]; rfl) (by rw [e1]; exact hf) (by rw [e1]; exact hi) (by rw [e2]; exact LaidIn.none)
  exact h.of_heap (by simp [World.memory, World.forCall, Input.heap])
end Go.Proofs.YtcbepmjojppokaaGreatDoor.Tp
namespace Go.Proofs.YtcbepmjojppokaaGreatDoor
open Go.ChangeShapes Go.WideShapes Go.ChangeAt Go.RowKit Go.Joins
/-- The row's list without the handle. -/
def parsesList : List (String × DataW Unit) := [("math/bits.deBruijn32tab", Rows.laid_math_bits_deBruijn32tab), ("math/bits.deBruijn64tab", Rows.laid_math_bits_deBruijn64tab), ("internal/strconv.uint64pow10", Rows.laid_internal_strconv_uint64pow10), ("unicode/utf8.acceptRanges", Rows.laid_unicode_utf8_acceptRanges)] ++ (sentList.map sentRow ++ [("strconv.ErrRange", Rows.laid_strconv_ErrRange), ("strconv.ErrSyntax", Rows.laid_strconv_ErrSyntax), ("unicode/utf8.first", Rows.laid_unicode_utf8_first)])
set_option maxRecDepth 100000 in
theorem env_of {W : World} (hL : laidMetH Tryz.prog Rows.testParsesRow.laid W) : ∃ A, Tp.EnvT W A := by
  have hL0 : laidMet Tryz.prog parsesList W ∧ handlesMet Tryz.prog [("errors.errorType", Rows.laid_errors_errorType)] W := hL
  obtain ⟨A, hA⟩ := sents_of (rest := [("strconv.ErrRange", Rows.laid_strconv_ErrRange), ("strconv.ErrSyntax", Rows.laid_strconv_ErrSyntax), ("unicode/utf8.first", Rows.laid_unicode_utf8_first)]) (Tp.laid_drop 4 _ hL0.1)
  exact ⟨A, hA, Tp.syn_of (rest := [("unicode/utf8.first", Rows.laid_unicode_utf8_first)]) (Tp.laid_drop 16 _ hL0.1), Tp.errTy_of hL0.2, Tp.tab_of (Tp.laid_drop 1 _ hL0.1)⟩
set_option maxRecDepth 100000 in
theorem testParses_walk {H : Type} (enc : TypeId × Value → H) (W : World) (base : Nat) (hL : laidMetH Tryz.prog Rows.testParsesRow.laid W) (v : Value) (d : DataW H) (p : List MemPlace) (hv : Value.okWide Tryz.prog W .any base 9 v)
    (h0 : DataW.Trod enc Tryz.prog W 0 (fun _ => true) true 9 v d p) (_hlt : ∀ x ∈ p, x.block < W.heap.size) (_hw : ∀ x ∈ d.weights Tryz.prog 9, x ≤ reachBytes) :
    Calls Tryz.prog 3 #[v] W fun e W' => e = .returned (.bool true) ∧ Below W.heap.size W W' := by
  obtain ⟨s, rfl, rfl, _⟩ := Go.ChangeMaps.open_string Tryz.underlying9 hv h0
  obtain ⟨A, hE⟩ := env_of hL
  exact (Tp.testParses_any s.data.toList A W hE).mono (fun e w' h => ⟨h.1, h.2.out⟩)
set_option maxRecDepth 100000 in
theorem testParses_lifted (os : Os) (started : os.Started) (H : Type) (enc : TypeId × Value → H) (F : Stop.Interp) :
    ReturnsInHanded {} Tryz.checked os 3 .any ((OpenSpec.ofChange Rows.testParsesSpec).preRow enc Tryz.prog Tryz.f3 Rows.testParsesRow.domain false Rows.testParsesRow.laid) (((OpenSpec.ofChange Rows.testParsesSpec).at F).post enc Tryz.prog Tryz.f3 false true false false) := by
  refine returnsInHanded_of_row (C := Tryz.checked) (s := OpenSpec.ofChange Rows.testParsesSpec) own started (by kernel_rfl) Tryz.func3
    (witness_row_shaped (enc := enc) (C := Tryz.checked) (Tp.hWorld os (Tp.dataOf Rows.testParsesRow.laid)) #[.string ByteArray.empty] (Tp.hWorld_os _ _) (World.shaped_of_ZipB (by kernel_rfl) (by kernel_rfl)) (by kernel_rfl)
      (OpenSpec.preRow_of_cond 8 (x := ([.lit (.string [])], [], [])) (by kernel_rfl) (by kernel_rfl) (fun k hk => by cases hk) (by kernel_rfl) (Tp.hWorld_met _ rfl (by kernel_rfl) (by kernel_rfl) (by kernel_rfl)))) ?_
  intro W base args ds gs before hval hW _ _ hsz hL _ _
  exact law_contract rfl rfl rfl (fun _ _ => rfl) (by kernel_rfl) (of_decide_eq_true (by kernel_rfl)) W base args ds gs before hval hW hsz (fun v d p hv h0 hlt hw _ _ => testParses_walk enc W base hL v d p hv h0 hlt hw )
theorem testParses_said : Rows.TestParsesSaid :=
  OpenClaim.holds_of_cond 3 Tryz.f3 rfl rfl rfl rfl rfl rfl rfl ⟨rfl, rfl, rfl, rfl, rfl⟩ rfl rfl rfl rfl rfl (by kernel_rfl) Tryz.func3 (by kernel_rfl)
    (of_decide_eq_true (by kernel_rfl)) (by unfold Func.isWrapper; first | (rw [if_pos (by decide +kernel)]; kernel_rfl) | (rw [if_neg (by decide +kernel)]; exact ⟨rfl, rfl⟩))
    (fun os started H enc _ F => by rw [OpenClaim.pre_eq_preRow]; exact testParses_lifted os started H enc F)
theorem testParses_plain (f : FuncId) (fn : Func) (hf : Tryz.pinned.checked.prog.funcNamed "caesura/caesuralaw23.TestParses" = some f) (hfn : Tryz.pinned.checked.prog.funcs[f]? = some fn) :
    true = Tryz.pinned.checked.prog.looks [] ∧ ∀ (j : Nat) t, fn.params[j]? = some t → Tryz.pinned.checked.prog.wantsStandIn t = false := by
  obtain rfl : f = 3 := Option.some.inj ((show Tryz.prog.funcNamed "caesura/caesuralaw23.TestParses" = some 3 by kernel_rfl).symm.trans hf) |>.symm
  obtain rfl : fn = Tryz.f3 := (Option.some.inj (Tryz.func3.symm.trans hfn)).symm
  refine ⟨by kernel_rfl, fun j t ht => ?_⟩
  rw [Tryz.params3] at ht
  obtain rfl : t = 9 := by simpa using Array.mem_of_getElem? ht
  exact (show Tryz.prog.wantsStandIn 9 = false by kernel_rfl)
theorem testParses_card : Rows.TestParsesCardSaid :=
  Claim7.holds_tied_plain_at .later [] _ _ _ _ testParses_said (fun _ h => by cases h) (by kernel_rfl) (fun _ h => by cases h) testParses_row_tie rfl ⟨rfl, rfl⟩ (by kernel_rfl) rfl testParses_plain (by kernel_rfl)
end Go.Proofs.YtcbepmjojppokaaGreatDoor
