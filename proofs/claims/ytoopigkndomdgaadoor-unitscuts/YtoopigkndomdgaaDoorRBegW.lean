/-
  The walks of caesuraref2.begins and caesuraref2.Cut.
-/
import Derived.Test.YtoopigkndomdgaaDoorUtfEq
import Derived.Laws.Concat
namespace Go.Proofs.YtoopigkndomdgaaDoor
open Go.RowKit
def secs : List UInt8 := [128, 144, 160]
def padTest (l : List UInt8) (n : Nat) (sec : UInt8) : Bool := (goodOf (padL l sec n)).map (·.2) == some n
theorem refBegins_of (a : UInt8) (r : List UInt8) (n : Nat) (hn : n = sizeL a.toNat) : refBegins (a :: r) = (decide ((a :: r).length < n) && secs.any (padTest (a :: r) n)) := by
  subst hn; rfl
theorem goodVal_test (l : List UInt8) (n : Nat) (hn : 0 < n) (sec : UInt8) : (∃ p, goodVal (goodOf (padL l sec n)) = .tuple #[.int .i64 p, .int .i64 (n : Int)] ∧ padTest l n sec = true) ∨ (∃ p k : Nat, goodVal (goodOf (padL l sec n)) = .tuple #[.int .i64 p, .int .i64 (k : Int)] ∧ k ≠ n ∧ padTest l n sec = false) := by
  unfold padTest
  cases h : goodOf (padL l sec n) with
  | none => exact .inr ⟨0, 0, rfl, by omega, rfl⟩
  | some q =>
    obtain ⟨p, k⟩ := q
    by_cases hk : k = n
    · subst hk; exact .inl ⟨p, rfl, by simp⟩
    · exact .inr ⟨p, k, rfl, hk, by simpa using hk⟩
theorem append_list (u : ByteArray) (b : UInt8) : (u ++ ⟨#[b]⟩ : ByteArray).data.toList = u.data.toList ++ [b] := by simp
theorem str_eq {u : ByteArray} {l : List UInt8} (h : u.data.toList = l) : u.size = l.length := by rw [← h]; simp
set_option maxRecDepth 10000 in
set_option maxHeartbeats 800000 in
theorem refBegins_any (s : ByteArray) (h1 : 0 < s.size) (h3 : s.size ≤ 3) (w : World) :
    Calls Tryd.prog 25 #[.string s] w fun e w' => e = .returned (.bool (refBegins s.data.toList)) ∧ Below w.heap.size w w' := by
  have HL : Hid (s.data.toList = s[0] :: s.data.toList.drop 1) := by have := drop_cons s 0 h1; rw [List.drop_zero] at this; exact this
  obtain ⟨n, hn⟩ : ∃ n, n = sizeL s[0].toNat := ⟨_, rfl⟩
  have HB : Hid (refBegins s.data.toList = (decide (s.size < n) && secs.any (padTest s.data.toList n))) := by
    show _ = _
    rw [HL.out, refBegins_of _ _ n hn, ← HL.out, bsize]
  have hsz := fun w => refSize_any s[0] w
  rw [← hn] at hsz
  have hn4 := size_le s[0].toNat
  rw [← hn] at hn4
  clear HL hn
  by_cases hlt : s.size < n
  · rw [decide_eq_true hlt, Bool.true_and] at HB
    obtain ⟨T, hT⟩ : ∃ T : UInt8 → List UInt8, T = fun sec => if s.data.toList.length = 1 then s.data.toList ++ [sec] else s.data.toList := ⟨_, rfl⟩
    have HP : Hid (∀ sec, padL s.data.toList sec n = T sec ++ List.replicate (n - (T sec).length) 128) := fun sec => by rw [hT]; rfl
    have hgt : ¬ n ≤ s.size := by omega
    go_enter Tryd.func25, Tryd.ntmps25
    go_wp2_with (go_at_call 37; refine (hsz _).mono ?_; rintro e w' ⟨rfl, rfl⟩)
    clear hsz
    go_loopw [5] (fun i wr => ∃ k : Nat, k ≤ 3 ∧ i = .int .i64 k ∧ (wr.heap[w'.heap.size]? = some (.cells #[.string ⟨#[128]⟩, .string ⟨#[144]⟩, .string ⟨#[160]⟩] 9 (0, 0)) ∧ Below w'.heap.size w' wr) ∧ refBegins s.data.toList = (secs.drop k).any (padTest s.data.toList n)) (fun i _ => 3 - (intOf i).toNat)
    case atStart => exact ⟨0, by omega, rfl, ⟨heap_alloc_new _ _, by go_grown⟩, HB.out⟩
    case round =>
      clear HB
      obtain ⟨k, hk, rfl, ⟨hrow, hbel⟩, hR⟩ := hrel
      have HR : Hid (refBegins s.data.toList = (secs.drop k).any (padTest s.data.toList n)) := hR
      have HW : Hid (wr.heap[w'.heap.size]? = some (.cells #[.string ⟨#[128]⟩, .string ⟨#[144]⟩, .string ⟨#[160]⟩] 9 (0, 0))) := hrow
      clear hR hrow
      by_cases hk3 : k < 3
      · obtain ⟨sec, hsec⟩ : ∃ sec, secs[k]? = some sec := ⟨_, List.getElem?_eq_getElem (by simpa [secs] using hk3)⟩
        have HS : Hid (refBegins s.data.toList = (padTest s.data.toList n sec || (secs.drop (k + 1)).any (padTest s.data.toList n))) := by
          show _ = _
          obtain ⟨hk', e⟩ := List.getElem?_eq_some_iff.1 hsec
          rw [HR.out, List.drop_eq_getElem_cons hk', e, List.any_cons]
        have hcell : wr.cell? ⟨w'.heap.size, k, none⟩ = some (.string ⟨#[sec]⟩) := by
          rw [cell_of_row wr _ _ _ _ _ HW.out]
          obtain rfl | rfl | rfl : k = 0 ∨ k = 1 ∨ k = 2 := by omega
          all_goals
            simp only [secs] at hsec
            cases hsec
            rfl
        have HQ := HP.out sec
        have HTs : Hid (T sec = if s.data.toList.length = 1 then s.data.toList ++ [sec] else s.data.toList) := by show _ = _; rw [hT]
        clear HR hsec
        obtain ⟨u, hu, hul, hgo⟩ : ∃ u : ByteArray, u = (if s.size = 1 then s ++ ⟨#[sec]⟩ else s) ∧ u.data.toList = T sec ∧ u.size ≤ n := by
          refine ⟨_, rfl, ?_, ?_⟩
          · rw [HTs.out, bsize]; split
            · exact append_list _ _
            · rfl
          · split
            · have : (s ++ ⟨#[sec]⟩ : ByteArray).size = s.size + 1 := by rw [ByteArray.size_append']; rfl
              omega
            · omega
        have HU : Hid (u.data.toList = T sec) := hul
        have HPd : Hid (padL s.data.toList sec n = T sec ++ List.replicate (n - (T sec).length) 128) := HQ
        clear HTs HQ hul
        by_cases hs1 : s.size = 1
        · rw [if_pos hs1] at hu
          have hs1' : ((s.size : Int) == 1) = true := by simp; omega
          clear hs1
          go_wp2
          go_loop [6] (fun t => ∃ (v : ByteArray) (j : Nat), t = .string v ∧ v.data.toList = T sec ++ List.replicate j 128 ∧ v.size ≤ n) (fun t => match t with | .string v => n - v.size | _ => 0)
          case atStart => exact ⟨u, 0, by rw [hu], by rw [HU.out]; simp, hgo⟩
          case round =>
            obtain ⟨v, j, rfl, hv, hvn⟩ := hrel
            have HVl : Hid (v.data.toList = T sec ++ List.replicate j 128) := hv
            clear hv hu HU hgo
            by_cases hvl : v.size < n
            · have HV2 : Hid ((v ++ ⟨#[128]⟩ : ByteArray).data.toList = T sec ++ List.replicate (j + 1) 128) := by
                show _ = _
                rw [append_list, HVl.out, List.append_assoc, List.replicate_succ']
              have hv2 : (v ++ ⟨#[128]⟩ : ByteArray).size = v.size + 1 := by rw [ByteArray.size_append']; rfl
              have hvl' : (v.size : Int) < (n : Int) := by omega
              go_wp2
              go_round
              case rel => exact ⟨v ++ ⟨#[128]⟩, j + 1, rfl, HV2.out, by omega⟩
              case measure => show n - (v ++ ⟨#[128]⟩ : ByteArray).size < n - v.size; omega
            · have hvn' : v.size = n := by omega
              have hpad : v.data.toList = padL s.data.toList sec n := by
                have hlen := str_eq HVl.out
                rw [List.length_append, List.length_replicate] at hlen
                rw [HVl.out, HPd.out, show j = n - (T sec).length by omega]
              have hg := refGood_any v 0 (by omega) (by omega) wr
              rw [List.drop_zero, refGood_eq, hpad, show ((0 : Nat) : Int) = 0 from rfl] at hg
              have hvi : (v.size : Int) = (n : Int) := by omega
              clear hpad HVl HPd
              rcases goodVal_test s.data.toList n (by omega) sec with ⟨q, e, ht⟩ | ⟨q, m, e, hm, ht⟩
              · rw [e] at hg
                have HE : Hid (refBegins s.data.toList = true) := by show _ = _; rw [HS.out, ht]; rfl
                clear HS e ht HW
                go_wp2_with (go_at_call 28; refine hg.mono ?_; rintro e w2 ⟨rfl, hb⟩)
                go_ret
                exact ⟨by rw [HE.out]; rfl, hbel.trans (hb.mono hbel.size)⟩
              · rw [e] at hg
                have hmi : ¬ (m : Int) = (n : Int) := by omega
                have hmj : ((m : Int) == (n : Int)) = false := by simpa using hmi
                have HE : Hid (refBegins s.data.toList = (secs.drop (k + 1)).any (padTest s.data.toList n)) := by show _ = _; rw [HS.out, ht]; rfl
                clear HS e ht
                go_wp2_with (go_at_call 28; refine hg.mono ?_; rintro e w2 ⟨rfl, hb⟩)
                go_roundw
                case rel => exact ⟨k + 1, by omega, by go_num, ⟨(hb.block _ (Array.getElem?_eq_some_iff.1 HW.out).1).trans HW.out, hbel.trans (hb.mono hbel.size)⟩, HE.out⟩
                case measure => simp [intOf]; omega
        · rw [if_neg hs1] at hu
          have hs1' : ((s.size : Int) == 1) = false := by simp; omega
          clear hs1
          go_wp2
          go_loop [6] (fun t => ∃ (v : ByteArray) (j : Nat), t = .string v ∧ v.data.toList = T sec ++ List.replicate j 128 ∧ v.size ≤ n) (fun t => match t with | .string v => n - v.size | _ => 0)
          case atStart => exact ⟨u, 0, by rw [hu], by rw [HU.out]; simp, hgo⟩
          case round =>
            obtain ⟨v, j, rfl, hv, hvn⟩ := hrel
            have HVl : Hid (v.data.toList = T sec ++ List.replicate j 128) := hv
            clear hv hu HU hgo
            by_cases hvl : v.size < n
            · have HV2 : Hid ((v ++ ⟨#[128]⟩ : ByteArray).data.toList = T sec ++ List.replicate (j + 1) 128) := by
                show _ = _
                rw [append_list, HVl.out, List.append_assoc, List.replicate_succ']
              have hv2 : (v ++ ⟨#[128]⟩ : ByteArray).size = v.size + 1 := by rw [ByteArray.size_append']; rfl
              have hvl' : (v.size : Int) < (n : Int) := by omega
              go_wp2
              go_round
              case rel => exact ⟨v ++ ⟨#[128]⟩, j + 1, rfl, HV2.out, by omega⟩
              case measure => show n - (v ++ ⟨#[128]⟩ : ByteArray).size < n - v.size; omega
            · have hvn' : v.size = n := by omega
              have hpad : v.data.toList = padL s.data.toList sec n := by
                have hlen := str_eq HVl.out
                rw [List.length_append, List.length_replicate] at hlen
                rw [HVl.out, HPd.out, show j = n - (T sec).length by omega]
              have hg := refGood_any v 0 (by omega) (by omega) wr
              rw [List.drop_zero, refGood_eq, hpad, show ((0 : Nat) : Int) = 0 from rfl] at hg
              have hvi : (v.size : Int) = (n : Int) := by omega
              clear hpad HVl HPd
              rcases goodVal_test s.data.toList n (by omega) sec with ⟨q, e, ht⟩ | ⟨q, m, e, hm, ht⟩
              · rw [e] at hg
                have HE : Hid (refBegins s.data.toList = true) := by show _ = _; rw [HS.out, ht]; rfl
                clear HS e ht HW
                go_wp2_with (go_at_call 28; refine hg.mono ?_; rintro e w2 ⟨rfl, hb⟩)
                go_ret
                exact ⟨by rw [HE.out]; rfl, hbel.trans (hb.mono hbel.size)⟩
              · rw [e] at hg
                have hmi : ¬ (m : Int) = (n : Int) := by omega
                have hmj : ((m : Int) == (n : Int)) = false := by simpa using hmi
                have HE : Hid (refBegins s.data.toList = (secs.drop (k + 1)).any (padTest s.data.toList n)) := by show _ = _; rw [HS.out, ht]; rfl
                clear HS e ht
                go_wp2_with (go_at_call 28; refine hg.mono ?_; rintro e w2 ⟨rfl, hb⟩)
                go_roundw
                case rel => exact ⟨k + 1, by omega, by go_num, ⟨(hb.block _ (Array.getElem?_eq_some_iff.1 HW.out).1).trans HW.out, hbel.trans (hb.mono hbel.size)⟩, HE.out⟩
                case measure => simp [intOf]; omega
      · obtain rfl : k = 3 := by omega
        go_wp2
        go_ret
        exact ⟨by rw [HR.out]; rfl, hbel⟩
  · rw [decide_eq_false hlt, Bool.false_and] at HB
    have hle : (n : Int) ≤ (s.size : Int) := by omega
    go_enter Tryd.func25, Tryd.ntmps25
    go_wp2_with (go_at_call 37; refine (hsz _).mono ?_; rintro e w' ⟨rfl, rfl⟩)
    go_ret
    exact ⟨by rw [HB.out]; rfl, Below.refl _ _⟩
end Go.Proofs.YtoopigkndomdgaaDoor
