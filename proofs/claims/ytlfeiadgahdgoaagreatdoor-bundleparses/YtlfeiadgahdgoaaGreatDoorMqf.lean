/-
  BrAW, BsIM, PiecesM, BsRM, BsEM, BsFM, BvTW, BvBW, UREncW, BvEW.
-/
import Derived.Test.YtlfeiadgahdgoaaGreatDoorMqe
import Derived.Test.YtlfeiadgahdgoaaGreatDoorMqc
import Derived.Test.YtlfeiadgahdgoaaGreatDoorMqd
import Derived.Lib.AppendStr
namespace Go.Proofs.YtlfeiadgahdgoaaGreatDoor
open Go.RowKit Go.Shelf Go.Lib
/-- What reading all lines leaves, or gives up with. -/
def AllA (A : Nat → Addr) (lo R : Nat) (w' : World) (o : PRes) (e : Ending) : Prop := match o with
  | .stop n i => Gives A i e ∧ ∃ v m, w'.heap[R]? = some (.cells #[.int .i64 (n : Int), v, m] 57 (0, 0))
  | .ok S => e = .returned (.tuple #[]) ∧ ∃ v T ln, secsO T = S ∧ RB w' lo R v T ln
theorem snocS {S : List Sec} {s : Sec} (h : S.getLast? = some s) : ∃ P, S = P ++ [s] ∧ S.dropLast = P := by
  have h1 : S ≠ [] := fun e => by rw [e] at h; cases h
  have h2 := List.dropLast_concat_getLast h1
  rw [List.getLast?_eq_some_getLast h1] at h
  injection h with h
  rw [h] at h2
  exact ⟨S.dropLast, h2.symm, rfl⟩
/-- What a line leaves keeps the limits. -/
theorem lineS_lim {S S' : List Sec} {t : List UInt8} (hl : S.length ≤ 500) (hn : nEd S ≤ 20000) (h : lineS S t = .go S') : S'.length ≤ 500 ∧ nEd S' ≤ 20000 := by
  unfold lineS at h
  split at h
  · injection h with h; subst h; exact ⟨hl, hn⟩
  · split at h
    · unfold headS at h
      split at h
      · split at h
        · cases h
        · split at h
          · split at h
            · cases h
            · injection h with h
              subst h
              rename_i hlt _
              rw [nEd_snoc]
              exact ⟨by simp; omega, by simpa using hn⟩
          · cases h
      · cases h
    · split at h
      · unfold parS at h
        split at h
        · split at h
          · cases h
          · split at h
            · cases h
            · rename_i s hs
              obtain ⟨P, e1, e2⟩ := snocS hs
              split at h
              · cases h
              · split at h
                · split at h
                  · injection h with h
                    subst h
                    rw [e2, nEd_snoc]
                    rw [e1, nEd_snoc] at hn
                    rw [e1] at hl
                    exact ⟨by simpa using hl, hn⟩
                  · cases h
                · cases h
        · cases h
      · have key : ∀ ad b, edS S ad b = .go S' → S'.length ≤ 500 ∧ nEd S' ≤ 20000 := fun ad b h => by
          unfold edS at h
          split at h
          · cases h
          · split at h
            · split at h
              · cases h
              · rename_i s hs
                obtain ⟨P, e1, e2⟩ := snocS hs
                split at h
                · injection h with h
                  rename_i hlt
                  subst h
                  rw [e2, nEd_snoc]
                  rw [e1, nEd_snoc] at hlt
                  rw [e1] at hl
                  exact ⟨by simpa using hl, by simp; omega⟩
                · cases h
            · cases h
        split at h
        · exact key _ _ h
        · split at h
          · exact key _ _ h
          · cases h
theorem trimSuf_le (s p : List UInt8) : (Lib.trimSuffix s p).length ≤ s.length := trimSuffix_le s p
theorem noC_le (l : List UInt8) : (noC l).length ≤ l.length := by
  have h := noC_pre l
  have h2 := congrArg List.length h
  rw [List.length_take] at h2
  omega
theorem cutN_le (l : List UInt8) : (cutN l).length ≤ l.length := by
  have h := (cut_le l [10]).1
  unfold cutN
  split
  · have := trimSuffix_le (Lib.cut l [10]).1 [13]
    omega
  · exact h
set_option maxRecDepth 10000 in
set_option maxHeartbeats 3200000 in
theorem takeAll_any (A : Nat → Addr) (l0 : List UInt8) (hl0 : l0.length ≤ 1048576) (w : World) (lo R ln : Nat) (v : Value) (S : List SecO) (hr : RB w lo R v S ln) (hlo : lo ≤ w.heap.size) (hl : S.length ≤ 500) (hne : nEd (secsO S) ≤ 20000) (hln : ln ≤ 1000)
    (HEnv : Hid (∀ W, Below R w W → Mx W ∧ Syn W ∧ SeqAt W ∧ Sents W A)) :
    Calls Tryz.prog 23 #[.pointer (some ⟨R, 0, none⟩), .string (strOf l0)] w fun e w' => AllA A lo R w' (parA (secsO S) ln l0) e ∧ Below R w w' := by
  have hRs := hr.size
  obtain ⟨O, hO⟩ : ∃ O, O = parA (secsO S) ln l0 := ⟨_, rfl⟩
  rw [← hO]
  have HO0 : Hid (O = if true = true then parA (secsO S) ln l0 else .ok (secsO S)) := hid0 (by rw [if_pos rfl]; exact hO)
  have HR0 := hid0 hr
  have hl1 : (secsO S).length ≤ 500 := by rw [secsO_length]; exact hl
  clear hr hO
  go_enter Tryz.func23, Tryz.ntmps23
  go_wp2
  go_loopw [4, 5] (fun s c wr => ∃ (r : List UInt8) (b : Bool) (T : List SecO) (u : Value) (n : Nat), s = .string (strOf r) ∧ c = .bool b ∧ n ≤ 1049600 ∧ (b = true → n + r.length ≤ 1049576) ∧ Hid (RB wr lo R u T n) ∧ Hid (T.length ≤ 500 ∧ nEd (secsO T) ≤ 20000) ∧ Hid (Below R w wr) ∧ Hid (O = if b = true then parA (secsO T) n r else .ok (secsO T))) (fun s c _ => (match c, s with | .bool true, .string x => x.size + 1 | _, _ => 0))
  case atStart => exact ⟨l0, true, S, v, ln, rfl, rfl, by omega, fun _ => by omega, HR0, hid0 ⟨hl, hne⟩, hid0 (Below.refl _ _), HO0⟩
  case round =>
    obtain ⟨r, b, T, u, n, rfl, rfl, hn1, hn2, HRB, HLim, HB, HOb⟩ := hrel
    cases b with
    | false =>
      have HQ : Hid (O = .ok (secsO T)) := hid0 (by rw [HOb.out, if_neg (by decide)])
      clear HOb hn2
      go_wp2
      go_end0
      exact ⟨by rw [HQ.out]; exact ⟨rfl, _, _, _, rfl, HRB.out⟩, HB.out⟩
    | true =>
      have hn3 := hn2 rfl
      obtain ⟨hM, hSy, hSq, hSe⟩ := HEnv.out wr HB.out
      obtain ⟨mx, hmx⟩ := hM
      have hrl : r.length ≤ 1049576 := by omega
      have hcut := scut_any (strOf r) ⟨#[10]⟩ (by rw [strOf_size]; omega) wr mx hmx
      rw [strOf_data] at hcut
      have hcutl := cut_le r [10]
      have HSu := hid0 (fun W => ssuf_any (strOf (Lib.cut r [10]).1) (by rw [strOf_size]; omega) W)
      rw [strOf_data] at HSu
      have hcn := cutN_le r
      have hnc := noC_le (cutN r)
      have HWc := hid0 (fun W => withoutComment_any (strOf (cutN r)) (by rw [strOf_size]; omega) W)
      rw [strOf_data] at HWc
      have HTr := hid0 (fun W => strim_any (strOf (noC (cutN r))) (by rw [strOf_size]; omega) W)
      rw [strOf_data] at HTr
      have hts := trimS_le (noC (cutN r)) [32, 9]
      have HTk : Hid (∀ W, RB W lo R u T (n + 1) → Below R w W → Calls Tryz.prog 39 #[.pointer (some ⟨R, 0, none⟩), .string (strOf (lineB (cutN r)))] W fun e w' => TkA A lo R (n + 1) w' (lineS (secsO T) (lineB (cutN r))) e ∧ Below R W w') := hid0 (fun W h1 h2 => by
        obtain ⟨e1, e2, e3, e4⟩ := HEnv.out W h2
        have h := take_any A (strOf (lineB (cutN r))) (by rw [strOf_size]; unfold lineB; omega) W lo R (n + 1) u T h1 (Nat.le_trans hlo h2.size) HLim.out.1 HLim.out.2 e1 e2 e3 e4
        rw [strOf_data] at h
        exact h)
      have hOs := HOb.out
      rw [if_pos rfl, parA_step] at hOs
      have e0 : Lib.trimS (noC (cutN r)) [32, 9] = lineB (cutN r) := rfl
      rw [e0] at HTr
      have hlim := fun S' => lineS_lim (S' := S') (t := lineB (cutN r)) (by rw [secsO_length]; exact HLim.out.1) HLim.out.2
      have HR1 : Hid (∀ W, RB W lo R u T n → RB (W.setCell ⟨R, 0, none⟩ (.int .i64 ((n : Int) + 1))) lo R u T (n + 1)) := hid0 (fun W h => by
        have h2 := h.line (n + 1)
        rw [show (((n + 1 : Nat)) : Int) = (n : Int) + 1 by omega] at h2
        exact h2)
      have hwl := HB.out.size
      cases hcb : (Lib.cut r [10]).2.2 with
      | true =>
        have HCu := hid0 hcut
        rw [hcb] at HCu
        have hcn2 : cutN r = Lib.trimSuffix (Lib.cut r [10]).1 [13] := by unfold cutN; rw [hcb]; rfl
        have HO2 := hid0 hOs
        rw [hcb] at HO2
        rw [← hcn2] at HSu
        cases hls : lineS (secsO T) (lineB (cutN r)) with
        | stop i =>
          have HK2 := HTk
          rw [hls] at HK2 HO2
          unfold TkA Gives at HK2
          simp only at HK2 HO2
          clear hcut HTk HOb hls hcb hOs HR0 hlim hmx hSy hSq hSe e0 HO0
          generalize strOf (lineB (cutN r)) = X at *
          generalize strOf (noC (cutN r)) = M at *
          generalize strOf (cutN r) = L at *
          generalize strOf (Lib.cut r [10]).1 = C1 at *
          generalize strOf (Lib.cut r [10]).2.1 = C2 at *
          generalize strOf r = RR at *
          go_wp2_with (first
            | (go_at_call 37; refine HCu.out.mono ?_; rintro e w1 ⟨rfl, q1, hw1⟩; have HB1 : Hid (Below wr.heap.size wr w1) := hid0 (by rw [hw1]; exact drewN_keeps (Below.refl _ _) q1); clear hw1; have HX1 := hid0 (HRB.out.later HB1.out); obtain ⟨x0, _, _, x3⟩ := HX1.out.cells; have x4 := x3 0; clear x3; have HY1 := hid0 (HR1.out _ HX1.out); have HZ1 := hid0 (HB.out.trans (lowB HB1.out (by omega))); have hs1 := HB1.out.size)
            | (go_at_call 38; refine (HSu.out _).mono ?_; rintro e w9 ⟨rfl, hw9⟩; have hw9' := hw9.symm; subst hw9'; clear hw9)
            | (go_at_call 41; refine (HWc.out _).mono ?_; rintro e w2 ⟨rfl, hw2⟩; have hw2' := hw2.symm; subst hw2'; clear hw2)
            | (go_at_call 40; refine (HTr.out _).mono ?_; rintro e w3 ⟨rfl, hb3⟩; have HX3 := hid0 (HY1.out.later hb3); have HZ3 := hid0 ((HZ1.out.setCell (p := ⟨R, 0, none⟩) (Nat.le_refl _) _).trans (lowB hb3 (by simp; omega))); clear hb3)
            | (go_at_call 39; refine (HK2.out _ HX3.out HZ3.out).mono ?_; rintro e w4 ⟨⟨rfl, h4⟩, hb4⟩; have HH := hid0 h4; have HB4 := hid0 (HZ3.out.trans hb4); clear h4 hb4)
            | fail)
          exact ⟨rfl, by rw [HO2.out]; exact ⟨rfl, HH.out⟩, HB4.out⟩
        | go S' =>
          have HK2 := HTk
          rw [hls] at HK2 HO2
          unfold TkA at HK2
          simp only at HK2 HO2
          have HLm := hid0 (hlim S' hls)
          have hsh := cut_short hcb
          clear hcut HTk HOb hls hcb hOs HR0 hlim hmx hSy hSq hSe e0 HO0
          generalize strOf (lineB (cutN r)) = X at *
          generalize strOf (noC (cutN r)) = M at *
          generalize strOf (cutN r) = L at *
          generalize strOf (Lib.cut r [10]).1 = C1 at *
          have hrs : (strOf r).size = r.length := strOf_size r
          generalize strOf r = RR at *
          go_wp2_with (first
            | (go_at_call 37; refine HCu.out.mono ?_; rintro e w1 ⟨rfl, q1, hw1⟩; have HB1 : Hid (Below wr.heap.size wr w1) := hid0 (by rw [hw1]; exact drewN_keeps (Below.refl _ _) q1); clear hw1; have HX1 := hid0 (HRB.out.later HB1.out); obtain ⟨x0, _, _, x3⟩ := HX1.out.cells; have x4 := x3 0; clear x3; have HY1 := hid0 (HR1.out _ HX1.out); have HZ1 := hid0 (HB.out.trans (lowB HB1.out (by omega))); have hs1 := HB1.out.size)
            | (go_at_call 38; refine (HSu.out _).mono ?_; rintro e w9 ⟨rfl, hw9⟩; have hw9' := hw9.symm; subst hw9'; clear hw9)
            | (go_at_call 41; refine (HWc.out _).mono ?_; rintro e w2 ⟨rfl, hw2⟩; have hw2' := hw2.symm; subst hw2'; clear hw2)
            | (go_at_call 40; refine (HTr.out _).mono ?_; rintro e w3 ⟨rfl, hb3⟩; have HX3 := hid0 (HY1.out.later hb3); have HZ3 := hid0 ((HZ1.out.setCell (p := ⟨R, 0, none⟩) (Nat.le_refl _) _).trans (lowB hb3 (by simp; omega))); clear hb3)
            | (go_at_call 39; refine (HK2.out _ HX3.out HZ3.out).mono ?_; rintro e w4 ⟨⟨rfl, h4⟩, hb4⟩; have HH := hid0 h4; have HB4 := hid0 (HZ3.out.trans hb4); clear h4 hb4)
            | fail)
          obtain ⟨u', T', hT', hRB'⟩ := HH.out
          go_roundw
          case rel => exact ⟨(Lib.cut r [10]).2.1, true, T', u', n + 1, rfl, rfl, by omega, fun _ => by omega, hid0 hRB', hid0 (by rw [hT', ← secsO_length, hT']; exact HLm.out), hid0 HB4.out, hid0 (by rw [hT']; exact HO2.out)⟩
          case measure => simp only [strOf_size]; omega
      | false =>
        have HCu := hid0 hcut
        rw [hcb] at HCu
        have hcn2 : cutN r = (Lib.cut r [10]).1 := by unfold cutN; rw [hcb]; rfl
        have HO2 := hid0 hOs
        rw [hcb] at HO2
        rw [← hcn2] at HCu
        clear HSu
        cases hls : lineS (secsO T) (lineB (cutN r)) with
        | stop i =>
          have HK2 := HTk
          rw [hls] at HK2 HO2
          unfold TkA Gives at HK2
          simp only at HK2 HO2
          clear hcut HTk HOb hls hcb hOs HR0 hlim hmx hSy hSq hSe e0 HO0
          generalize strOf (lineB (cutN r)) = X at *
          generalize strOf (noC (cutN r)) = M at *
          generalize strOf (cutN r) = L at *
          generalize strOf (Lib.cut r [10]).2.1 = C2 at *
          generalize strOf r = RR at *
          go_wp2_with (first
            | (go_at_call 37; refine HCu.out.mono ?_; rintro e w1 ⟨rfl, q1, hw1⟩; have HB1 : Hid (Below wr.heap.size wr w1) := hid0 (by rw [hw1]; exact drewN_keeps (Below.refl _ _) q1); clear hw1; have HX1 := hid0 (HRB.out.later HB1.out); obtain ⟨x0, _, _, x3⟩ := HX1.out.cells; have x4 := x3 0; clear x3; have HY1 := hid0 (HR1.out _ HX1.out); have HZ1 := hid0 (HB.out.trans (lowB HB1.out (by omega))); have hs1 := HB1.out.size)
            | (go_at_call 41; refine (HWc.out _).mono ?_; rintro e w2 ⟨rfl, hw2⟩; have hw2' := hw2.symm; subst hw2'; clear hw2)
            | (go_at_call 40; refine (HTr.out _).mono ?_; rintro e w3 ⟨rfl, hb3⟩; have HX3 := hid0 (HY1.out.later hb3); have HZ3 := hid0 ((HZ1.out.setCell (p := ⟨R, 0, none⟩) (Nat.le_refl _) _).trans (lowB hb3 (by simp; omega))); clear hb3)
            | (go_at_call 39; refine (HK2.out _ HX3.out HZ3.out).mono ?_; rintro e w4 ⟨⟨rfl, h4⟩, hb4⟩; have HH := hid0 h4; have HB4 := hid0 (HZ3.out.trans hb4); clear h4 hb4)
            | fail)
          exact ⟨rfl, by rw [HO2.out]; exact ⟨rfl, HH.out⟩, HB4.out⟩
        | go S' =>
          have HK2 := HTk
          rw [hls] at HK2 HO2
          unfold TkA at HK2
          simp only at HK2 HO2
          have HLm := hid0 (hlim S' hls)
          clear hcut HTk HOb hls hcb hOs HR0 hlim hmx hSy hSq hSe e0 HO0
          generalize strOf (lineB (cutN r)) = X at *
          generalize strOf (noC (cutN r)) = M at *
          generalize strOf (cutN r) = L at *
          have hrs : (strOf r).size = r.length := strOf_size r
          generalize strOf r = RR at *
          go_wp2_with (first
            | (go_at_call 37; refine HCu.out.mono ?_; rintro e w1 ⟨rfl, q1, hw1⟩; have HB1 : Hid (Below wr.heap.size wr w1) := hid0 (by rw [hw1]; exact drewN_keeps (Below.refl _ _) q1); clear hw1; have HX1 := hid0 (HRB.out.later HB1.out); obtain ⟨x0, _, _, x3⟩ := HX1.out.cells; have x4 := x3 0; clear x3; have HY1 := hid0 (HR1.out _ HX1.out); have HZ1 := hid0 (HB.out.trans (lowB HB1.out (by omega))); have hs1 := HB1.out.size)
            | (go_at_call 41; refine (HWc.out _).mono ?_; rintro e w2 ⟨rfl, hw2⟩; have hw2' := hw2.symm; subst hw2'; clear hw2)
            | (go_at_call 40; refine (HTr.out _).mono ?_; rintro e w3 ⟨rfl, hb3⟩; have HX3 := hid0 (HY1.out.later hb3); have HZ3 := hid0 ((HZ1.out.setCell (p := ⟨R, 0, none⟩) (Nat.le_refl _) _).trans (lowB hb3 (by simp; omega))); clear hb3)
            | (go_at_call 39; refine (HK2.out _ HX3.out HZ3.out).mono ?_; rintro e w4 ⟨⟨rfl, h4⟩, hb4⟩; have HH := hid0 h4; have HB4 := hid0 (HZ3.out.trans hb4); clear h4 hb4)
            | fail)
          obtain ⟨u', T', hT', hRB'⟩ := HH.out
          go_roundw
          case rel => exact ⟨(Lib.cut r [10]).2.1, false, T', u', n + 1, rfl, rfl, by omega, (fun h => by cases h), hid0 hRB', hid0 (by rw [hT', ← secsO_length, hT']; exact HLm.out), hid0 HB4.out, hid0 (by rw [hT']; exact HO2.out)⟩
          case measure => simp
end Go.Proofs.YtlfeiadgahdgoaaGreatDoor
namespace Go.Proofs.YtlfeiadgahdgoaaGreatDoor
open Go.RowKit Go.Shelf Go.Lib
/-- The one form of a one form is itself. -/
theorem tag_again {t c : List UInt8} (h : tagF t = some c) : tagF c = some c := by
  unfold tagF at h
  split at h
  · rename_i hv
    obtain rfl := Option.some.inj h
    rw [tagF_form (validP_fine hv.2) hv.1, if_pos hv.2]
  · cases h
theorem tag_is {t c : List UInt8} (h : tagF t = some c) : isTagB (strOf c) = true := by
  unfold isTagB
  rw [strOf_data]
  exact decide_eq_true (tag_again h)
def rootS : ByteArray := ⟨#[114, 111, 111, 116]⟩
structure SecG (s : Sec) : Prop where
  loc : isTagB s.loc = true
  par : s.par = ⟨#[]⟩ ∨ isTagB s.par = true
  root : s.loc = rootS → s.par = ⟨#[]⟩
  ent : ∀ e ∈ s.ed, entF e.2.data.toList = none
structure Inv (S : List Sec) : Prop where
  len : S.length ≤ 500
  ned : nEd S ≤ 20000
  ok : ∀ s ∈ S, SecG s
  pw : S.Pairwise fun x y => x.loc ≠ y.loc
theorem inv_nil : Inv [] := ⟨by simp, by simp [nEd], (fun s hs => by cases hs), .nil⟩
theorem hasL_not {S : List Sec} {t : ByteArray} (h : ¬ hasL S t = true) : ∀ s ∈ S, s.loc ≠ t := fun s hs e => h (by
  unfold hasL
  exact List.any_eq_true.2 ⟨s, hs, decide_eq_true e⟩)
theorem ent_enc {ps : List Nat} (h1 : (toI ps).all scalarP = true) (h2 : 0 < ps.length) (h3 : ps.length ≤ 32) : entF (strOf (encAll (toI ps))).data.toList = none := by
  rw [strOf_data]
  have hu := units_enc (toI ps) h1
  have hl : (unitsOf (encAll (toI ps))).length = ps.length := by
    have := congrArg List.length hu
    simpa [toI] using this
  unfold entF
  rw [if_neg, if_neg (by omega), if_neg (by omega)]
  intro h
  obtain ⟨u, hu1, hu2⟩ := List.any_eq_true.1 h
  have hm : u.1 ∈ toI ps := by rw [← hu]; exact List.mem_map.2 ⟨u, hu1, rfl⟩
  have hs := List.all_eq_true.1 h1 _ hm
  rw [scalar_iff] at hs
  have : u.1 = -1 := by simpa using hu2
  omega
theorem pw_last {P : List Sec} {s s' : Sec} (h : (P ++ [s]).Pairwise fun x y => x.loc ≠ y.loc) (e : s'.loc = s.loc) : (P ++ [s']).Pairwise fun x y => x.loc ≠ y.loc := by
  obtain ⟨h1, _, h3⟩ := List.pairwise_append.1 h
  refine List.pairwise_append.2 ⟨h1, List.pairwise_singleton _ _, fun x hx y hy => ?_⟩
  rw [List.mem_singleton] at hy
  subst hy
  rw [e]
  exact h3 x hx s (by simp)
theorem ok_last {P : List Sec} {s s' : Sec} (h : ∀ x ∈ P ++ [s], SecG x) (h' : SecG s') : ∀ x ∈ P ++ [s'], SecG x := fun x hx => by
  rcases List.mem_append.1 hx with hx | hx
  · exact h x (List.mem_append.2 (.inl hx))
  · rw [List.mem_singleton] at hx
    subst hx
    exact h'
theorem inv_line {S S' : List Sec} {t : List UInt8} (hI : Inv S) (h : lineS S t = .go S') : Inv S' := by
  obtain ⟨hl', hn'⟩ := lineS_lim hI.len hI.ned h
  suffices H : (∀ s ∈ S', SecG s) ∧ S'.Pairwise fun x y => x.loc ≠ y.loc by exact ⟨hl', hn', H.1, H.2⟩
  clear hl' hn'
  unfold lineS at h
  split at h
  · injection h with h; subst h; exact ⟨hI.ok, hI.pw⟩
  · split at h
    · unfold headS at h
      split at h
      · split at h
        · cases h
        · rename_i c hc
          split at h
          · split at h
            · cases h
            · rename_i hh
              injection h with h
              subst h
              refine ⟨fun s hs => ?_, ?_⟩
              · rcases List.mem_append.1 hs with hs | hs
                · exact hI.ok s hs
                · rw [List.mem_singleton] at hs
                  subst hs
                  exact ⟨tag_is hc, .inl rfl, fun _ => rfl, fun e he => by cases he⟩
              · refine List.pairwise_append.2 ⟨hI.pw, List.pairwise_singleton _ _, fun x hx y hy => ?_⟩
                rw [List.mem_singleton] at hy
                subst hy
                exact hasL_not hh x hx
          · cases h
      · cases h
    · split at h
      · unfold parS at h
        split at h
        · split at h
          · cases h
          · rename_i c hc
            split at h
            · cases h
            · rename_i s hs
              obtain ⟨P, e1, e2⟩ := snocS hs
              split at h
              · cases h
              · rename_i hroot
                split at h
                · split at h
                  · injection h with h
                    subst h
                    rw [e2]
                    have ho := hI.ok
                    have hp := hI.pw
                    rw [e1] at ho hp
                    have hg := ho s (by simp)
                    exact ⟨ok_last ho ⟨hg.loc, .inr (tag_is hc), fun e => absurd e hroot, hg.ent⟩, pw_last hp rfl⟩
                  · cases h
                · cases h
        · cases h
      · have key : ∀ ad b, edS S ad b = .go S' → (∀ s ∈ S', SecG s) ∧ S'.Pairwise fun x y => x.loc ≠ y.loc := fun ad b h => by
          unfold edS at h
          split at h
          · cases h
          · rename_i ps _
            split at h
            · rename_i hps
              split at h
              · cases h
              · rename_i s hs
                obtain ⟨P, e1, e2⟩ := snocS hs
                split at h
                · rename_i hlt
                  injection h with h
                  subst h
                  rw [e2]
                  have ho := hI.ok
                  have hp := hI.pw
                  rw [e1] at ho hp
                  have hg := ho s (by simp)
                  refine ⟨ok_last ho ⟨hg.loc, hg.par, hg.root, fun e he => ?_⟩, pw_last hp rfl⟩
                  rcases List.mem_append.1 he with he | he
                  · exact hg.ent e he
                  · rw [List.mem_singleton] at he
                    subst he
                    exact ent_enc hps.1 hps.2 hlt.1
                · cases h
            · cases h
        split at h
        · exact key _ _ h
        · split at h
          · exact key _ _ h
          · cases h
theorem inv_par : ∀ (f : Nat) (S S' : List Sec) (n : Nat) (l : List UInt8), Inv S → parF f S n l = .ok S' → Inv S'
  | 0, S, S', n, l, hI, h => by rw [parF] at h; injection h with h; subst h; exact hI
  | f + 1, S, S', n, l, hI, h => by
    rw [parF] at h
    cases hs : lineS S (lineB (cutN l)) with
    | stop i => rw [hs] at h; cases h
    | go S1 =>
      rw [hs] at h
      simp only at h
      have h1 := inv_line hI hs
      split at h
      · exact inv_par f S1 S' _ _ h1 h
      · injection h with h; subst h; exact h1
theorem inv_prs {l : List UInt8} {S : List Sec} (h : prsL l = .ok S) : Inv S := inv_par _ [] S 0 l inv_nil h
theorem firstN_all (f : Nat → Option Nat) : ∀ (m i : Nat), (∀ j, i ≤ j → j < i + m → f j = none) → firstN f i m = none
  | 0, _, _ => rfl
  | m + 1, i, h => by
    rw [firstN, h i (Nat.le_refl _) (by omega)]
    exact firstN_all f m (i + 1) (fun j h1 h2 => h j (by omega) (by omega))
/-- What was read may be. -/
theorem inv_chk {S : List Sec} (h : Inv S) : chkE entE S = none := by
  unfold chkE
  rw [if_neg (by have := h.len; have := h.ned; omega)]
  refine firstN_all _ _ _ (fun k _ hk => ?_)
  have hk2 : k < S.length := by omega
  rw [fSec_at _ _ _ hk2]
  have hg := h.ok S[k] (List.getElem_mem hk2)
  unfold secE
  rw [if_neg (by rw [hg.loc]; decide), if_neg, if_neg, if_neg]
  · refine firstN_all _ _ _ (fun j _ hj => ?_)
    have hj2 : j < S[k].ed.length := by omega
    rw [fE_at _ _ _ hj2]
    exact hg.ent _ (List.getElem_mem hj2)
  · rintro ⟨h1, h2⟩
    rw [beq_nil] at h1
    rw [beq_root] at h2
    exact of_decide_eq_false h1 (hg.root (of_decide_eq_true h2))
  · rintro ⟨h1, h2⟩
    rw [beq_nil] at h1
    rcases hg.par with h3 | h3
    · exact of_decide_eq_false h1 h3
    · rw [h3] at h2; cases h2
  · intro hh
    obtain ⟨i, hi, e⟩ := (hasL_iff _ _).1 hh
    rw [List.length_take] at hi
    rw [List.getElem_take] at e
    exact List.pairwise_iff_getElem.1 h.pw i k (by omega) hk2 (by omega) e
/-- .. and what may be is so. -/
theorem chk_inv {S : List Sec} (h : chkE entE S = none) : Inv S := by
  unfold chkE at h
  split at h
  · cases h
  · rename_i h0
    have hk : ∀ k (hk : k < S.length), secE entE S[k] (S.take k) = none := fun k hk => by
      have := firstN_of _ _ _ h k (Nat.zero_le _) (by omega)
      rw [fSec_at _ _ _ hk] at this
      exact this
    refine ⟨by omega, by omega, fun s hs => ?_, ?_⟩
    · obtain ⟨k, hk2, rfl⟩ := List.getElem_of_mem hs
      have h1 := hk k hk2
      have hok := secE_ok (E := entE) (fun _ => rfl) h1
      unfold secE at h1
      split at h1
      · cases h1
      · split at h1
        · cases h1
        · split at h1
          · cases h1
          · rename_i h3
            split at h1
            · cases h1
            · rename_i h4
              refine ⟨hok.loc, ?_, fun e => ?_, hok.ent⟩
              · by_cases e : S[k].par = ⟨#[]⟩
                · exact .inl e
                · right
                  exact hok.par (by rw [beq_nil]; exact decide_eq_false e)
              · by_cases e2 : S[k].par = ⟨#[]⟩
                · exact e2
                · exact absurd ⟨by rw [beq_nil]; exact decide_eq_false e2, by rw [beq_root]; exact decide_eq_true e⟩ h4
    · refine List.pairwise_iff_getElem.2 (fun i j hi hj hij e => ?_)
      have h1 := hk j hj
      unfold secE at h1
      split at h1
      · cases h1
      · rw [if_pos] at h1
        · cases h1
        · exact (hasL_iff _ _).2 ⟨i, by rw [List.length_take]; omega, by rw [List.getElem_take]; exact e⟩
/-- How long a tag is. -/
theorem tag_two {s : ByteArray} (h : isTagB s = true) : 2 ≤ s.size ∧ s.size ≤ 64 := by
  have h0 : tagF s.data.toList = some s.data.toList := of_decide_eq_true h
  obtain ⟨h1, h2, _, _⟩ := tagF_le h0
  have hl : s.data.toList.length = s.size := bsize s
  have hj := congrArg List.length (join_pieces s.data.toList)
  rw [List.length_map] at hj
  simp only [validP, Bool.and_eq_true, decide_eq_true_eq] at h2
  obtain ⟨⟨_, h3⟩, _⟩ := h2
  cases hp : pieces s.data.toList with
  | nil => exact absurd hp (pieces_ne _)
  | cons p r =>
    rw [hp] at h3 hj
    simp only [List.headD_cons] at h3
    cases r with
    | nil => rw [joinU_one] at hj; omega
    | cons q r => rw [joinU_cons] at hj; simp at hj; omega
end Go.Proofs.YtlfeiadgahdgoaaGreatDoor
namespace Go.Proofs.YtlfeiadgahdgoaaGreatDoor
open Go.RowKit
theorem fits_take (n : Nat) : ∀ (lo hi j : Nat) (l : List UInt8), n ≤ j → fits lo hi n (l.take j) = fits lo hi n l := by
  induction n with
  | zero => intro lo hi j l _; rw [fits_zero, fits_zero]
  | succ n ih =>
    intro lo hi j l hj
    cases l with
    | nil => rw [List.take_nil]
    | cons b l =>
      obtain ⟨j', rfl⟩ : ∃ j', j = j' + 1 := ⟨j - 1, by omega⟩
      rw [List.take_succ_cons, fits_cons, fits_cons, ih 128 191 j' l (by omega)]
theorem fits_short (n : Nat) : ∀ (lo hi j : Nat) (l : List UInt8), j ≤ n → fits lo hi n l = n → fits lo hi n (l.take j) = j := by
  induction n with
  | zero => intro lo hi j l hj _; rw [fits_zero]; omega
  | succ n ih =>
    intro lo hi j l hj h
    cases l with
    | nil => rw [fits_nil] at h; omega
    | cons b l =>
      cases j with
      | zero => rw [List.take_zero, fits_nil]
      | succ j =>
        rw [fits_cons] at h
        rw [List.take_succ_cons, fits_cons]
        split at h
        · rename_i hb
          rw [if_pos hb, ih 128 191 j l (by omega) (by omega)]
        · omega
/-- A well-formed sequence, written out. -/
theorem good_iff {l : List UInt8} {p m : Nat} (h : goodOf l = some (p, m)) : ∃ a r i, l = a :: r ∧ rowOf a.toNat = some i ∧ m = tSz i ∧ fits (tLo2 i) (tHi2 i) (tSz i - 1) r = tSz i - 1 ∧ p = (ptL (a :: r) ((a.toNat : Int) - tMk i) (tSz i - 1)).toNat := by
  cases l with
  | nil => simp [goodOf, begunOf] at h
  | cons a r =>
    cases hr : rowOf a.toNat with
    | none => rw [good_none hr] at h; cases h
    | some i =>
      rw [good_some hr] at h
      split at h
      · cases h
      · rename_i hf
        have := fits_max (tLo2 i) (tHi2 i) (tSz i - 1) r
        have hs := sz_pos i (rowOf_lt hr)
        simp only [Option.some.injEq, Prod.mk.injEq] at h
        exact ⟨a, r, i, rfl, hr, h.2.symm, by omega, h.1.symm⟩
theorem good_mk {a : UInt8} {r : List UInt8} {i : Nat} (hr : rowOf a.toNat = some i) (hf : fits (tLo2 i) (tHi2 i) (tSz i - 1) r = tSz i - 1) : goodOf (a :: r) = some ((ptL (a :: r) ((a.toNat : Int) - tMk i) (tSz i - 1)).toNat, tSz i) := by
  have hs := sz_pos i (rowOf_lt hr)
  rw [good_some hr, if_neg (by omega)]
theorem good_take {l : List UInt8} {p m : Nat} (h : goodOf l = some (p, m)) (j : Nat) (hj : m ≤ j) : goodOf (l.take j) = some (p, m) := by
  obtain ⟨a, r, i, rfl, hr, rfl, hf, rfl⟩ := good_iff h
  have hs := sz_pos i (rowOf_lt hr)
  obtain ⟨j', rfl⟩ : ∃ j', j = j' + 1 := ⟨j - 1, by omega⟩
  have e := ptL_take (a :: r) ((a.toNat : Int) - tMk i) (j' + 1) (tSz i - 1) (by omega)
  rw [List.take_succ_cons] at e
  rw [List.take_succ_cons, good_mk hr (by rw [fits_take _ _ _ j' r (by omega)]; exact hf), e]
theorem good_untake {l : List UInt8} {p m : Nat} (j : Nat) (h : goodOf (l.take j) = some (p, m)) : goodOf l = some (p, m) := by
  obtain ⟨a, r, i, e, hr, rfl, hf, rfl⟩ := good_iff h
  have hs := sz_pos i (rowOf_lt hr)
  cases l with
  | nil => simp at e
  | cons b l =>
    cases j with
    | zero => simp at e
    | succ j =>
      rw [List.take_succ_cons] at e
      simp only [List.cons.injEq] at e
      obtain ⟨rfl, rfl⟩ := e
      have hle := fits_le (tLo2 i) (tHi2 i) (tSz i - 1) (l.take j)
      rw [List.length_take] at hle
      rw [hf] at hle
      rw [fits_take _ _ _ j l (by omega)] at hf
      have e := ptL_take (b :: l) ((b.toNat : Int) - tMk i) (j + 1) (tSz i - 1) (by omega)
      rw [List.take_succ_cons] at e
      rw [good_mk hr hf, e]
theorem good_len {l : List UInt8} {p m : Nat} (h : goodOf l = some (p, m)) : m ≤ l.length ∧ 1 ≤ m ∧ m ≤ 4 := by
  obtain ⟨a, r, i, rfl, hr, rfl, hf, rfl⟩ := good_iff h
  have hs := sz_pos i (rowOf_lt hr)
  have hle := fits_le (tLo2 i) (tHi2 i) (tSz i - 1) r
  simp only [List.length_cons]
  omega
/-- The bytes behind the lead byte. -/
theorem good_more {l : List UInt8} {p m : Nat} (h : goodOf l = some (p, m)) (j : Nat) (h0 : 0 < j) (hj : j < m) : 128 ≤ (l.getD j 0).toNat ∧ (l.getD j 0).toNat ≤ 191 := by
  obtain ⟨a, r, i, rfl, hr, rfl, hf, rfl⟩ := good_iff h
  have hs := sz_pos i (rowOf_lt hr)
  exact (good_parts hr (by omega)).2.2.2 j h0 hj
theorem row_lead {c i : Nat} (hc : c < 256) (h : rowOf c = some i) : c < 128 ∨ 194 ≤ c := by
  rcases row_cases c hc with q | q | q | q | q | q | q | q | q | q | q | q | q
  case inr.inl => rw [q.1] at h; cases h
  case inr.inr.inl => rw [q.1] at h; cases h
  all_goals omega
/-- A beginning, written out. -/
theorem begins_iff (l : List UInt8) : beginsL l = true ↔ ∃ a r i, l = a :: r ∧ rowOf a.toNat = some i ∧ fits (tLo2 i) (tHi2 i) (tSz i - 1) r = r.length ∧ r.length + 1 < tSz i := by
  cases l with
  | nil => simp [beginsL, begunOf]
  | cons a r =>
    cases hr : rowOf a.toNat with
    | none =>
      rw [beginsL, begun_none hr]
      simp only [Bool.false_eq_true, false_iff]
      rintro ⟨a', r', i, e, h, _⟩
      simp only [List.cons.injEq] at e
      obtain ⟨rfl, rfl⟩ := e
      rw [hr] at h; cases h
    | some i =>
      rw [begins_some hr]
      simp only [List.length_cons, Bool.and_eq_true, beq_iff_eq, decide_eq_true_eq]
      constructor
      · intro h; exact ⟨a, r, i, rfl, hr, by omega, h.2⟩
      · rintro ⟨a', r', i', e, h, h1, h2⟩
        simp only [List.cons.injEq] at e
        obtain ⟨rfl, rfl⟩ := e
        obtain rfl := Option.some.inj (hr.symm.trans h)
        exact ⟨by omega, h2⟩
/-- A part of a well-formed sequence is a beginning. -/
theorem good_begins {l : List UInt8} {p m : Nat} (h : goodOf l = some (p, m)) (q : Nat) (h0 : 0 < q) (hq : q < m) : beginsL (l.take q) = true := by
  have hl := good_len h
  obtain ⟨a, r, i, rfl, hr, rfl, hf, rfl⟩ := good_iff h
  obtain ⟨q', rfl⟩ : ∃ q', q = q' + 1 := ⟨q - 1, by omega⟩
  simp only [List.length_cons] at hl
  rw [begins_iff, List.take_succ_cons]
  refine ⟨a, r.take q', i, rfl, hr, ?_, ?_⟩
  · rw [List.length_take, fits_short _ _ _ q' r (by omega) hf]; omega
  · rw [List.length_take]; omega
theorem cutFrom_le (l : List UInt8) (n : Nat) : cutFrom l n ≤ n := by
  induction n with
  | zero => simp [cutFrom]
  | succ n ih => rw [cutFrom]; split <;> omega
theorem cutFrom_max (l : List UInt8) (n q : Nat) (hq : q ≤ n) (hb : beginsL (l.drop (l.length - q)) = true) : q ≤ cutFrom l n := by
  induction n with
  | zero => omega
  | succ n ih =>
    rw [cutFrom]
    split
    · exact hq
    · rename_i h
      by_cases e : q = n + 1
      · subst e; exact absurd hb h
      · exact ih (by omega)
theorem cutFrom_spec (l : List UInt8) (n : Nat) (h : cutFrom l n ≠ 0) : beginsL (l.drop (l.length - cutFrom l n)) = true := by
  induction n with
  | zero => simp [cutFrom] at h
  | succ n ih =>
    rw [cutFrom] at h ⊢
    split
    · assumption
    · rename_i hb
      rw [if_neg hb] at h
      exact ih h
theorem cutOf_le (l : List UInt8) : cutOf l ≤ 3 ∧ cutOf l ≤ l.length := by
  have := cutFrom_le l (min 3 l.length)
  rw [cutOf]
  omega
/-- No unit of the whole goes over the place that Cut tells. -/
theorem no_straddle (A B : List UInt8) (k p m : Nat) (hk : k < A.length - cutOf A) (h : goodOf ((A ++ B).drop k) = some (p, m)) : k + m ≤ A.length - cutOf A := by
  have hc := cutOf_le A
  have hm := good_len h
  rcases Nat.lt_or_ge (A.length - cutOf A) (k + m) with hgt | hle
  · exfalso
    rcases Nat.lt_or_ge A.length (k + m) with h1 | h1
    · have hb := good_begins h (A.length - k) (by omega) (by omega)
      have e : ((A ++ B).drop k).take (A.length - k) = A.drop (A.length - (A.length - k)) := by
        rw [List.drop_append_of_le_length (by omega), List.take_append_of_le_length (by rw [List.length_drop]; omega), List.take_of_length_le (by rw [List.length_drop]; omega)]
        congr 1; omega
      rw [e] at hb
      have := cutFrom_max A (min 3 A.length) (A.length - k) (by omega) hb
      rw [cutOf] at hk
      omega
    · have hc0 : cutOf A ≠ 0 := by omega
      have hb := cutFrom_spec A (min 3 A.length) (by rw [cutOf] at hc0; exact hc0)
      rw [← cutOf, begins_iff] at hb
      obtain ⟨a, r, i, e, hr, _, _⟩ := hb
      have hmo := good_more h (A.length - cutOf A - k) (by omega) (by omega)
      have ha : ((A ++ B).drop k).getD (A.length - cutOf A - k) 0 = a := by
        have e2 := congrArg (·[0]?) e
        simp only [List.getElem?_drop, List.getElem?_cons_zero, Nat.add_zero] at e2
        rw [List.getD_eq_getElem?_getD, List.getElem?_drop, show k + (A.length - cutOf A - k) = A.length - cutOf A by omega, List.getElem?_append_left (by omega), e2]
        rfl
      rw [ha] at hmo
      have := row_lead a.toNat_lt hr
      omega
  · exact hle
theorem uni_same (A B : List UInt8) (k : Nat) (hk : k < A.length - cutOf A) :
    uniOf ((A ++ B).drop k) = uniOf ((A.take (A.length - cutOf A)).drop k) ∧ k + (uniOf ((A ++ B).drop k)).2 ≤ A.length - cutOf A := by
  have hc := cutOf_le A
  have e : (A.take (A.length - cutOf A)).drop k = ((A ++ B).drop k).take (A.length - cutOf A - k) := by
    rw [List.drop_append_of_le_length (by omega), List.take_append_of_le_length (by rw [List.length_drop]; omega), List.drop_take]
  have hg : goodOf ((A ++ B).drop k) = goodOf (((A ++ B).drop k).take (A.length - cutOf A - k)) := by
    cases h : goodOf ((A ++ B).drop k) with
    | some q =>
      obtain ⟨p, m⟩ := q
      have := no_straddle A B k p m hk h
      rw [good_take h _ (by omega)]
    | none =>
      cases h2 : goodOf (((A ++ B).drop k).take (A.length - cutOf A - k)) with
      | none => rfl
      | some q =>
        obtain ⟨p, m⟩ := q
        rw [good_untake _ h2] at h
        cases h
  constructor
  · rw [uniOf, uniOf, e, ← hg]
  · rw [uniOf]
    cases h : goodOf ((A ++ B).drop k) with
    | none => show k + 1 ≤ _; omega
    | some q =>
      obtain ⟨p, m⟩ := q
      exact no_straddle A B k p m hk h
theorem units_head (A B : List UInt8) : ∀ (d k : Nat), A.length - cutOf A - k ≤ d → k ≤ A.length - cutOf A → unitsAt (A ++ B) k = unitsAt (A.take (A.length - cutOf A)) k ++ unitsAt (A ++ B) (A.length - cutOf A) := by
  have hc := cutOf_le A
  intro d
  induction d with
  | zero =>
    intro k h1 h2
    obtain rfl : k = A.length - cutOf A := by omega
    rw [unitsAt_end (A.take (A.length - cutOf A)) _ (by rw [List.length_take]; omega), List.nil_append]
  | succ d ih =>
    intro k h1 h2
    by_cases hk : k = A.length - cutOf A
    · subst hk
      rw [unitsAt_end (A.take (A.length - cutOf A)) _ (by rw [List.length_take]; omega), List.nil_append]
    · obtain ⟨u1, u2⟩ := uni_same A B k (by omega)
      have hs : 1 ≤ (uniOf ((A ++ B).drop k)).2 := by
        cases h : (A ++ B).drop k with
        | nil => have := congrArg List.length h; simp at this; omega
        | cons a r => exact (uni_size a r).1
      rw [unitsAt_step (A ++ B) k (by simp; omega), unitsAt_step (A.take (A.length - cutOf A)) k (by rw [List.length_take]; omega), ← u1, ih _ (by omega) u2]
      rfl
def shiftU (n : Nat) (us : List (Int × Nat × Nat)) : List (Int × Nat × Nat) := us.map fun u => (u.1, u.2.1 + n, u.2.2 + n)
theorem unitsF_shift (f : Nat) : ∀ (n k : Nat) (l : List UInt8), unitsF f (k + n) l = shiftU n (unitsF f k l) := by
  induction f with
  | zero => intro n k l; rfl
  | succ f ih =>
    intro n k l
    cases l with
    | nil => rfl
    | cons a l =>
      rw [unitsF, unitsF, show k + n + (uniOf (a :: l)).2 = k + (uniOf (a :: l)).2 + n by omega, ih]
      rfl
theorem units_rest (L : List UInt8) (n : Nat) : unitsAt L n = shiftU n (unitsOf (L.drop n)) := by
  rw [unitsOf, unitsAt, unitsAt, List.drop_zero, Nat.sub_zero, List.length_drop]
  have := unitsF_shift (L.length - n) n 0 (L.drop n)
  rw [Nat.zero_add] at this
  exact this
/-- The units of the whole: those of the beginning, then those of the rest. -/
theorem units_pieces (A B : List UInt8) : unitsOf (A ++ B) = unitsOf (A.take (A.length - cutOf A)) ++ shiftU (A.length - cutOf A) (unitsOf (A.drop (A.length - cutOf A) ++ B)) := by
  have hc := cutOf_le A
  have h := units_head A B _ 0 (Nat.le_refl _) (Nat.zero_le _)
  rw [units_rest (A ++ B) (A.length - cutOf A), List.drop_append_of_le_length (by omega)] at h
  exact h
end Go.Proofs.YtlfeiadgahdgoaaGreatDoor
namespace Go.Proofs.YtlfeiadgahdgoaaGreatDoor
open Go.RowKit Go.Shelf Go.Lib
theorem index_at (c : UInt8) (r : List UInt8) : ∀ (x : List UInt8), c ∉ x → index (x ++ c :: r) [c] = (x.length : Int)
  | [], _ => by rw [List.nil_append, index_eq]; rfl
  | a :: x, h => by
    have h1 : a ≠ c := fun e => h (by rw [e]; exact List.mem_cons_self)
    have ih := index_at c r x (fun hm => h (List.mem_cons_of_mem _ hm))
    rw [List.cons_append, index_ne a c _ h1, ih, if_neg (by simp), List.length_cons]
    omega
theorem cut_at (c : UInt8) (x r : List UInt8) (h : c ∉ x) : Lib.cut (x ++ c :: r) [c] = (x, r, true) := by
  unfold Lib.cut
  rw [index_at c r x h, if_pos (by omega)]
  simp
theorem cut_none : Lib.cut [] [10] = ([], [], false) := by decide
theorem suffix_not {x : List UInt8} {c : UInt8} (h : x.getLast? ≠ some c) : Lib.hasSuffix x [c] = false := by
  unfold Lib.hasSuffix
  rw [Bool.eq_false_iff]
  intro hs
  obtain ⟨t, ht⟩ := List.isSuffixOf_iff_suffix.1 hs
  exact h (by rw [← ht]; simp)
theorem cutN_at {x r : List UInt8} (h10 : (10 : UInt8) ∉ x) (h13 : x.getLast? ≠ some 13) : cutN (x ++ 10 :: r) = x := by
  unfold cutN
  rw [cut_at 10 x r h10, if_pos rfl]
  unfold Lib.trimSuffix
  rw [suffix_not h13, if_neg (by decide)]
theorem parA_line {S : List Sec} {n : Nat} {x r : List UInt8} (h10 : (10 : UInt8) ∉ x) (h13 : x.getLast? ≠ some 13) : parA S n (x ++ 10 :: r) = match lineS S (lineB x) with
    | .stop i => .stop (n + 1) i
    | .go S' => parA S' (n + 1) r := by
  rw [parA_step, cutN_at h10 h13, cut_at 10 x r h10]
  cases lineS S (lineB x) with
  | stop i => rfl
  | go S' => simp
theorem parA_end (S : List Sec) (n : Nat) : parA S n [] = .ok S := by
  rw [parA_step]
  have e : lineB (cutN []) = [] := by decide
  rw [e, cut_none]
  unfold lineS
  rw [if_pos rfl]
  simp
/-- Neither a comment nor an escape. -/
def calm (b : UInt8) : Bool := b != 35 && b != 92
theorem noC_app : ∀ (x r : List UInt8), (∀ b ∈ x, calm b = true) → noC (x ++ r) = x ++ noC r
  | [], _, _ => rfl
  | a :: x, r, h => by
    have ha := h a List.mem_cons_self
    simp only [calm, Bool.and_eq_true, bne_iff_ne, ne_eq] at ha
    rw [List.cons_append, noC_else _ ha.1 ha.2, noC_app x r (fun b hb => h b (List.mem_cons_of_mem _ hb)), List.cons_append]
theorem noC_nil : noC [] = [] := by simp [noC]
theorem noC_calm {x : List UInt8} (h : ∀ b ∈ x, calm b = true) : noC x = x := by
  have := noC_app x [] h
  rw [List.append_nil, noC_nil, List.append_nil] at this
  exact this
def blankB (b : UInt8) : Bool := [32, 9].contains b
theorem trimL_id {a : UInt8} {x : List UInt8} (h : blankB a = false) : Lib.trimLeftS (a :: x) [32, 9] = a :: x := by
  unfold Lib.trimLeftS
  rw [List.dropWhile_cons, if_neg (by unfold blankB at h; rw [h]; decide)]
theorem trimL_one {x : List UInt8} : Lib.trimLeftS (32 :: x) [32, 9] = Lib.trimLeftS x [32, 9] := by
  unfold Lib.trimLeftS
  rw [List.dropWhile_cons, if_pos (by decide)]
theorem trimR_id {b : UInt8} {x : List UInt8} (h : blankB b = false) : Lib.trimRightS (x ++ [b]) [32, 9] = x ++ [b] := by
  unfold Lib.trimRightS
  rw [List.reverse_append, List.reverse_singleton, List.singleton_append, List.dropWhile_cons, if_neg (by unfold blankB at h; rw [h]; decide)]
  simp
theorem trimS_id {a b : UInt8} {x y : List UInt8} (e : a :: x = y ++ [b]) (ha : blankB a = false) (hb : blankB b = false) : Lib.trimS (a :: x) [32, 9] = a :: x := by
  unfold Lib.trimS
  rw [e, trimR_id hb, ← e, trimL_id ha]
/-- Bytes of a tag. -/
theorem fine_calm (b : UInt8) : fine b = true → calm b = true ∧ b ≠ 10 ∧ b ≠ 13 ∧ blankB b = false ∧ b ≠ 91 ∧ b ≠ 93 := all256 (p := fun b => fine b = true → calm b = true ∧ b ≠ 10 ∧ b ≠ 13 ∧ blankB b = false ∧ b ≠ 91 ∧ b ≠ 93) (by decide +kernel) b
structure TagL (l : List UInt8) : Prop where
  tag : tagF l = some l
  fine : ∀ b ∈ l, fine b = true
  ne : l ≠ []
theorem tagL_of {s : ByteArray} (h : isTagB s = true) : TagL s.data.toList := by
  have h0 : tagF s.data.toList = some s.data.toList := of_decide_eq_true h
  refine ⟨h0, validP_fine (tagF_le h0).2.1, fun e => ?_⟩
  have := (tag_two h).1
  rw [← bsize, e] at this
  simp at this
theorem ends {l : List UInt8} (h : l ≠ []) : ∃ a x y b, l = a :: x ∧ l = y ++ [b] := by
  obtain ⟨a, x, rfl⟩ : ∃ a x, l = a :: x := by cases l with
    | nil => exact absurd rfl h
    | cons a x => exact ⟨a, x, rfl⟩
  exact ⟨a, x, _, _, rfl, (List.dropLast_concat_getLast h).symm⟩
theorem TagL.trimS {l : List UInt8} (h : TagL l) : Lib.trimS l [32, 9] = l := by
  obtain ⟨a, x, y, b, e1, e2⟩ := ends h.ne
  have ha := h.fine a (by rw [e1]; simp)
  have hb := h.fine b (by rw [e2]; simp)
  rw [e1]
  exact trimS_id (e1.symm.trans e2) (fine_calm a ha).2.2.2.1 (fine_calm b hb).2.2.2.1
theorem TagL.trimL {l : List UInt8} (h : TagL l) : Lib.trimLeftS l [32, 9] = l := by
  obtain ⟨a, x, y, b, e1, _⟩ := ends h.ne
  rw [e1]
  exact trimL_id (fine_calm a (h.fine a (by rw [e1]; simp))).2.2.2.1
theorem hasL_of {S : List Sec} {t : ByteArray} (h : ∀ s ∈ S, s.loc ≠ t) : ¬ hasL S t = true := fun hh => by
  unfold hasL at hh
  obtain ⟨s, hs, e⟩ := List.any_eq_true.1 hh
  exact h s hs (of_decide_eq_true e)
theorem last_app (x : List UInt8) (b : UInt8) : (x ++ [b]).getLast? = some b := by simp
/-- A head's line. -/
theorem line_head {S : List Sec} {n : Nat} {loc : ByteArray} {r : List UInt8} (ht : isTagB loc = true) (hl : S.length < 500) (hd : ∀ s ∈ S, s.loc ≠ loc) : parA S n ([91] ++ loc.data.toList ++ [93, 10] ++ r) = parA (S ++ [⟨loc, ⟨#[]⟩, []⟩]) (n + 1) r := by
  have hT := tagL_of ht
  have e0 : [91] ++ loc.data.toList ++ [93, 10] ++ r = (91 :: loc.data.toList ++ [93]) ++ 10 :: r := by simp
  rw [e0, parA_line]
  rotate_left
  · intro hm
    rw [List.mem_append, List.mem_cons, List.mem_singleton] at hm
    rcases hm with (h | h) | h
    · cases h
    · exact (fine_calm _ (hT.fine _ h)).2.1 rfl
    · cases h
  · rw [last_app]; decide
  have e1 : noC (91 :: loc.data.toList ++ [93]) = 91 :: loc.data.toList ++ [93] := noC_calm (fun b hb => by
    rw [List.mem_append, List.mem_cons, List.mem_singleton] at hb
    rcases hb with (h | h) | h
    · subst h; decide
    · exact (fine_calm _ (hT.fine _ h)).1
    · subst h; decide)
  have e2 : lineB (91 :: loc.data.toList ++ [93]) = 91 :: loc.data.toList ++ [93] := by
    unfold lineB
    rw [e1]
    exact trimS_id (y := 91 :: loc.data.toList) rfl (by decide) (by decide)
  have e3 : lineS S (91 :: loc.data.toList ++ [93]) = .go (S ++ [⟨loc, ⟨#[]⟩, []⟩]) := by
    unfold lineS
    rw [if_neg (by simp), if_pos (by simp [Lib.hasPrefix])]
    have e4 : Lib.trimPrefix (91 :: loc.data.toList ++ [93]) [91] = loc.data.toList ++ [93] := by simp [Lib.trimPrefix, Lib.hasPrefix]
    rw [e4]
    unfold headS
    have e5 : Lib.hasSuffix (loc.data.toList ++ [93]) [93] = true := List.isSuffixOf_iff_suffix.2 ⟨_, rfl⟩
    have e6 : Lib.trimSuffix (loc.data.toList ++ [93]) [93] = loc.data.toList := by unfold Lib.trimSuffix; rw [if_pos e5]; simp
    have e7 : strOf loc.data.toList = loc := rfl
    rw [if_pos e5, e6, hT.trimS, hT.tag]
    simp only
    rw [if_pos hl, e7, if_neg (hasL_of hd)]
  rw [e2, e3]
/-- A parent's line. -/
theorem line_par {P : List Sec} {n : Nat} {loc par : ByteArray} {r : List UInt8} (ht : isTagB par = true) (hr : loc ≠ rootS) : parA (P ++ [⟨loc, ⟨#[]⟩, []⟩]) n ([112, 97, 114, 101, 110, 116, 32] ++ par.data.toList ++ [10] ++ r) = parA (P ++ [⟨loc, par, []⟩]) (n + 1) r := by
  have hT := tagL_of ht
  obtain ⟨a, x, y, b, q1, q2⟩ := ends hT.ne
  have e0 : [112, 97, 114, 101, 110, 116, 32] ++ par.data.toList ++ [10] ++ r = ([112, 97, 114, 101, 110, 116, 32] ++ par.data.toList) ++ 10 :: r := by simp
  have hb : b ∈ par.data.toList := by rw [q2]; simp
  have hl : [112, 97, 114, 101, 110, 116, 32] ++ par.data.toList = ([112, 97, 114, 101, 110, 116, 32] ++ y) ++ [b] := by rw [q2, List.append_assoc]
  rw [e0, parA_line]
  rotate_left
  · intro hm
    rcases List.mem_append.1 hm with h | h
    · revert h; decide
    · exact (fine_calm _ (hT.fine _ h)).2.1 rfl
  · rw [hl, last_app]
    intro h
    injection h with h
    exact (fine_calm _ (hT.fine _ hb)).2.2.1 h
  have e1 : noC ([112, 97, 114, 101, 110, 116, 32] ++ par.data.toList) = [112, 97, 114, 101, 110, 116, 32] ++ par.data.toList := noC_calm (fun c hc => by
    rcases List.mem_append.1 hc with h | h
    · clear hc
      revert h c
      decide
    · exact (fine_calm _ (hT.fine _ h)).1)
  have e2 : lineB ([112, 97, 114, 101, 110, 116, 32] ++ par.data.toList) = [112, 97, 114, 101, 110, 116, 32] ++ par.data.toList := by
    unfold lineB
    rw [e1]
    have hl2 : (112 : UInt8) :: ([97, 114, 101, 110, 116, 32] ++ par.data.toList) = ([112, 97, 114, 101, 110, 116, 32] ++ y) ++ [b] := hl
    exact trimS_id hl2 (by decide) (fine_calm b (hT.fine b hb)).2.2.2.1
  have e3 : lineS (P ++ [⟨loc, ⟨#[]⟩, []⟩]) ([112, 97, 114, 101, 110, 116, 32] ++ par.data.toList) = .go (P ++ [⟨loc, par, []⟩]) := by
    unfold lineS
    rw [if_neg (by simp), if_neg (by simp [Lib.hasPrefix, List.isPrefixOf]), if_pos (by simp [Lib.hasPrefix, parW, List.isPrefixOf])]
    have e4 : Lib.trimPrefix ([112, 97, 114, 101, 110, 116, 32] ++ par.data.toList) parW = 32 :: par.data.toList := by simp [Lib.trimPrefix, Lib.hasPrefix, parW, List.isPrefixOf]
    have e7 : strOf par.data.toList = par := rfl
    rw [e4]
    unfold parS
    rw [trimL_one, hT.trimL, if_pos (by simp), hT.tag]
    simp only [List.getLast?_append, List.getLast?_singleton, Option.some_or, List.dropLast_concat]
    rw [if_neg (show ¬ loc = (⟨#[114, 111, 111, 116]⟩ : ByteArray) from hr), e7]
    simp
  rw [e2, e3]
end Go.Proofs.YtlfeiadgahdgoaaGreatDoor
namespace Go.Proofs.YtlfeiadgahdgoaaGreatDoor
open Go.RowKit Go.Shelf Go.Lib
/-- The bytes of a well-formed sequence are those of its point. -/
theorem good_take_enc {l : List UInt8} {p m : Nat} (h : goodOf l = some (p, m)) : encL p = l.take m ∧ scalarP (p : Int) = true := by
  rw [← refGood_eq] at h
  cases l with
  | nil => cases h
  | cons a r =>
    rw [ref_cons a r _ rfl] at h
    split at h
    · cases h
    · split at h
      · cases h
      · unfold refTest at h
        split at h
        · rename_i hc
          injection h with h
          injection h with h1 h2
          rw [← h1, ← h2]
          refine ⟨hc.2, ?_⟩
          have hs := (scalar_iff _).1 hc.1
          rw [show (((ptL (a :: r) ((a.toNat : Int) - offL (sizeL a.toNat)) (sizeL a.toNat - 1)).toNat : Nat) : Int) = ptL (a :: r) ((a.toNat : Int) - offL (sizeL a.toNat)) (sizeL a.toNat - 1) by omega]
          exact hc.1
        · cases h
theorem good_ascii (a : UInt8) (r : List UInt8) (h : a.toNat < 128) : goodOf (a :: r) = some (a.toNat, 1) := by
  rw [← refGood_eq, ref_cons a r 1 (size1 h), if_neg (by decide), if_neg (by omega), test1 a r h]
theorem uni_ascii (a : UInt8) (r : List UInt8) (h : a.toNat < 128) : uniOf (a :: r) = ((a.toNat : Int), 1) := by
  unfold uniOf
  rw [good_ascii a r h]
/-- A point as it is written; true: at an end of its entry. -/
def wrP (q : Nat × Bool) : List UInt8 :=
  if q.1 = 92 then [92, 92] else if q.1 = 35 then [92, 35] else if q.1 = 32 ∧ q.2 = true then [92, 115] else if q.1 < 32 ∨ q.1 = 127 then [92, 117, 123] ++ hexL q.1 ++ [125] else encL q.1
def wrQ (qs : List (Nat × Bool)) : List UInt8 := qs.flatMap wrP
theorem wrQ_cons (q : Nat × Bool) (qs : List (Nat × Bool)) : wrQ (q :: qs) = wrP q ++ wrQ qs := rfl
theorem hex_all : ∀ i : Fin 128, (125 : UInt8) ∉ hexL i.val ∧ 1 ≤ (hexL i.val).length ∧ (∀ c ∈ hexL i.val, isHx c = true) ∧ hexN (hexL i.val) = i.val ∧ (∀ c ∈ hexL i.val, calm c = true ∧ c ≠ 10) := by decide +kernel
theorem hex_ok {p : Nat} (h : p < 128) : (125 : UInt8) ∉ hexL p ∧ 1 ≤ (hexL p).length ∧ (∀ c ∈ hexL p, isHx c = true) ∧ hexN (hexL p) = p ∧ (∀ c ∈ hexL p, calm c = true ∧ c ≠ 10) := hex_all ⟨p, h⟩
theorem esc_pre (b : UInt8) (r : List UInt8) : (uniOf (92 :: b :: r)).1 = 92 := by rw [uni_ascii 92 _ (by decide)]; rfl
/-- What is written for a point is read as it. -/
theorem pnt_wr {q : Nat × Bool} (hs : scalarP (q.1 : Int) = true) (r : List UInt8) : pntF (wrP q ++ r) = some (q.1, r) := by
  obtain ⟨p, e⟩ := q
  simp only at hs
  unfold wrP
  simp only
  split
  · rename_i h
    subst h
    unfold pntF
    rw [List.cons_append, List.cons_append, List.nil_append, if_pos (esc_pre 92 r)]
    simp [escF, Lib.hasPrefix, Lib.trimPrefix, List.isPrefixOf]
  · rename_i h92
    split
    · rename_i h
      subst h
      unfold pntF
      rw [List.cons_append, List.cons_append, List.nil_append, if_pos (esc_pre 35 r)]
      simp [escF, Lib.hasPrefix, Lib.trimPrefix, List.isPrefixOf]
    · rename_i h35
      split
      · rename_i h
        obtain ⟨rfl, _⟩ := h
        unfold pntF
        rw [List.cons_append, List.cons_append, List.nil_append, if_pos (esc_pre 115 r)]
        simp [escF, Lib.hasPrefix, Lib.trimPrefix, List.isPrefixOf]
      · split
        · rename_i h
          obtain ⟨x1, x2, x3, x4, _⟩ := hex_ok (p := p) (by omega)
          have hlen := hexL_len p
          have e0 : [92, 117, 123] ++ hexL p ++ [125] ++ r = 92 :: 117 :: 123 :: (hexL p ++ 125 :: r) := by simp
          rw [e0]
          unfold pntF
          rw [if_pos (esc_pre 117 _)]
          have hp : Lib.hasPrefix (92 :: 117 :: 123 :: (hexL p ++ 125 :: r)) [92, 117, 123] = true := by simp [Lib.hasPrefix, List.isPrefixOf]
          have ht : Lib.trimPrefix (92 :: 117 :: 123 :: (hexL p ++ 125 :: r)) [92, 117, 123] = hexL p ++ 125 :: r := by unfold Lib.trimPrefix; rw [if_pos hp]; rfl
          have hc : numC (92 :: 117 :: 123 :: (hexL p ++ 125 :: r)) = (hexL p, r, true) := by unfold numC; rw [ht]; exact cut_at 125 _ _ x1
          unfold escF
          rw [if_neg (by simp [Lib.hasPrefix, List.isPrefixOf]), if_neg (by simp [Lib.hasPrefix, List.isPrefixOf]), if_neg (by simp [Lib.hasPrefix, List.isPrefixOf])]
          unfold numF
          rw [hc, if_pos ⟨hp, rfl, by simp only; omega, x2, x3⟩, x4]
        · rename_i hp
          have hg := good_enc p hs r
          unfold pntF
          have hu : uniOf (encL p ++ r) = ((p : Int), (encL p).length) := by unfold uniOf; rw [hg]
          rw [hu, if_neg (by simp only; omega), if_neg (by simp only; omega)]
          simp
theorem encL_ne (p : Nat) : encL p ≠ [] := fun e => by have := encL_pos p; rw [e] at this; simp at this
theorem wrP_ne (q : Nat × Bool) : wrP q ≠ [] := by
  unfold wrP
  repeat' split
  all_goals first | exact encL_ne _ | simp
theorem pnts_wrQ : ∀ (qs : List (Nat × Bool)), (∀ q ∈ qs, scalarP (q.1 : Int) = true) → pntsOf (wrQ qs) = some (qs.map (·.1))
  | [], _ => rfl
  | q :: qs, h => by
    have hne : wrQ (q :: qs) ≠ [] := by rw [wrQ_cons]; exact fun e => wrP_ne q (List.append_eq_nil_iff.1 e).1
    rw [pnts_step hne, wrQ_cons, pnt_wr (h q (.head _)) (wrQ qs)]
    simp only
    rw [pnts_wrQ qs (fun x hx => h x (.tail _ hx))]
    rfl
theorem encL_byte {p : Nat} (hs : scalarP (p : Int) = true) : ∀ b ∈ encL p, (p < 128 ∧ b.toNat = p) ∨ 128 ≤ b.toNat := by
  have := (scalar_iff _).1 hs
  intro b hb
  unfold encL at hb
  split at hb
  · rw [List.mem_singleton] at hb
    subst hb
    rw [UInt8.toNat_ofNat']
    omega
  · split at hb
    · simp only [List.mem_cons, List.not_mem_nil, or_false] at hb
      right
      rcases hb with rfl | rfl <;> rw [UInt8.toNat_ofNat'] <;> omega
    · split at hb
      · simp only [List.mem_cons, List.not_mem_nil, or_false] at hb
        right
        rcases hb with rfl | rfl | rfl <;> rw [UInt8.toNat_ofNat'] <;> omega
      · simp only [List.mem_cons, List.not_mem_nil, or_false] at hb
        right
        rcases hb with rfl | rfl | rfl | rfl <;> rw [UInt8.toNat_ofNat'] <;> omega
theorem byte_of {b : UInt8} {c : UInt8} (h : b = c) : b.toNat = c.toNat := by rw [h]
/-- No end of a line in what is written. -/
theorem wrP_no10 {q : Nat × Bool} (hs : scalarP (q.1 : Int) = true) : (10 : UInt8) ∉ wrP q := by
  intro hm
  unfold wrP at hm
  split at hm
  · revert hm; decide
  · split at hm
    · revert hm; decide
    · split at hm
      · revert hm; decide
      · split at hm
        · rename_i h
          rcases List.mem_append.1 hm with h1 | h1
          · rcases List.mem_append.1 h1 with h2 | h2
            · revert h2; decide
            · exact ((hex_ok (p := q.1) (by omega)).2.2.2.2 _ h2).2 rfl
          · revert h1; decide
        · rcases encL_byte hs 10 hm with ⟨_, h1⟩ | h1
          · simp at h1; omega
          · simp at h1
theorem wrQ_no10 : ∀ (qs : List (Nat × Bool)), (∀ q ∈ qs, scalarP (q.1 : Int) = true) → (10 : UInt8) ∉ wrQ qs := fun qs h hm => by
  obtain ⟨q, hq, hb⟩ := List.mem_flatMap.1 hm
  exact wrP_no10 (h q hq) hb
theorem wrP_noC {q : Nat × Bool} (hs : scalarP (q.1 : Int) = true) (r : List UInt8) : noC (wrP q ++ r) = wrP q ++ noC r := by
  unfold wrP
  split
  · exact noC_esc 92 r
  · split
    · exact noC_esc 35 r
    · split
      · exact noC_esc 115 r
      · split
        · rename_i h
          have e0 : [92, 117, 123] ++ hexL q.1 ++ [125] ++ r = 92 :: 117 :: ((123 :: hexL q.1 ++ [125]) ++ r) := by simp
          rw [e0, noC_esc, noC_app (123 :: hexL q.1 ++ [125]) r (fun b hb => by
            rw [List.mem_append, List.mem_cons, List.mem_singleton] at hb
            rcases hb with (h1 | h1) | h1
            · subst h1; decide
            · exact ((hex_ok (p := q.1) (by omega)).2.2.2.2 b h1).1
            · subst h1; decide)]
          simp
        · rename_i h1 h2 h3 h4
          refine noC_app _ _ (fun b hb => ?_)
          unfold calm
          rcases encL_byte hs b hb with ⟨_, h5⟩ | h5
          · have n1 : b ≠ 35 := fun e => h2 (by rw [← h5, e]; rfl)
            have n2 : b ≠ 92 := fun e => h1 (by rw [← h5, e]; rfl)
            simp [n1, n2]
          · have n1 : b ≠ 35 := fun e => by rw [e] at h5; simp at h5
            have n2 : b ≠ 92 := fun e => by rw [e] at h5; simp at h5
            simp [n1, n2]
theorem wrQ_noC : ∀ (qs : List (Nat × Bool)), (∀ q ∈ qs, scalarP (q.1 : Int) = true) → noC (wrQ qs) = wrQ qs
  | [], _ => noC_nil
  | q :: qs, h => by rw [wrQ_cons, wrP_noC (h q (.head _)), wrQ_noC qs (fun x hx => h x (.tail _ hx))]
/-- At an end of an entry no blank stands, nor an end of a line. -/
theorem plain_ends {p : Nat} (hs : scalarP (p : Int) = true) (h1 : ¬ p < 32) (h2 : p ≠ 32) (b : UInt8) (hb : b ∈ encL p) : blankB b = false ∧ b ≠ 13 := by
  have hx : b ≠ 32 ∧ b ≠ 9 ∧ b ≠ 13 := by
    rcases encL_byte hs b hb with ⟨_, h5⟩ | h5
    · exact ⟨fun e => by rw [e] at h5; simp at h5; omega, fun e => by rw [e] at h5; simp at h5; omega, fun e => by rw [e] at h5; simp at h5; omega⟩
    · exact ⟨fun e => by rw [e] at h5; simp at h5, fun e => by rw [e] at h5; simp at h5, fun e => by rw [e] at h5; simp at h5⟩
  refine ⟨?_, hx.2.2⟩
  unfold blankB
  simp [hx.1, hx.2.1]
theorem wrP_ends {p : Nat} (hs : scalarP (p : Int) = true) : ∃ a x y b, wrP (p, true) = a :: x ∧ wrP (p, true) = y ++ [b] ∧ blankB a = false ∧ blankB b = false ∧ b ≠ 13 := by
  unfold wrP
  simp only
  split
  · exact ⟨92, [92], [92], 92, rfl, rfl, by decide, by decide, by decide⟩
  · split
    · exact ⟨92, [35], [92], 35, rfl, rfl, by decide, by decide, by decide⟩
    · split
      · exact ⟨92, [115], [92], 115, rfl, rfl, by decide, by decide, by decide⟩
      · rename_i h32
        split
        · exact ⟨92, [117, 123] ++ hexL p ++ [125], [92, 117, 123] ++ hexL p, 125, by simp, rfl, by decide, by decide, by decide⟩
        · rename_i hp
          obtain ⟨a, x, y, b, e1, e2⟩ := ends (encL_ne p)
          have n32 : p ≠ 32 := fun e => h32 (by simp [e])
          have ha := plain_ends hs (by omega) n32 a (by rw [e1]; simp)
          have hb := plain_ends hs (by omega) n32 b (by rw [e2]; simp)
          exact ⟨a, x, y, b, e1, e2, ha.1, hb.1, hb.2⟩
end Go.Proofs.YtlfeiadgahdgoaaGreatDoor
namespace Go.Proofs.YtlfeiadgahdgoaaGreatDoor
open Go.RowKit Go.Shelf Go.Lib
theorem mem_units (l : List UInt8) : ∀ (d k : Nat), l.length - k ≤ d → ∀ u ∈ unitsAt l k, ∃ j, j < l.length ∧ u = ((uniOf (l.drop j)).1, j, j + (uniOf (l.drop j)).2)
  | 0, k, h, u, hu => by rw [unitsAt_end l k (by omega)] at hu; cases hu
  | d + 1, k, h, u, hu => by
    by_cases hlt : k < l.length
    · have h1 := drop_size l k hlt
      rw [unitsAt_step l k hlt] at hu
      rcases List.mem_cons.1 hu with rfl | hu
      · exact ⟨k, hlt, rfl⟩
      · exact mem_units l d _ (by omega) u hu
    · rw [unitsAt_end l k (by omega)] at hu; cases hu
theorem uni_good {x : List UInt8} (h : (uniOf x).1 ≠ -1) : ∃ p m, goodOf x = some (p, m) ∧ uniOf x = ((p : Int), m) := by
  unfold uniOf at h ⊢
  cases hg : goodOf x with
  | none => rw [hg] at h; exact absurd rfl h
  | some q => obtain ⟨p, m⟩ := q; exact ⟨p, m, rfl, rfl⟩
/-- A unit of a good text. -/
theorem unit_good {l : List UInt8} {k : Nat} {u : Int × Nat × Nat} (hu : u ∈ unitsAt l k) (hb : u.1 ≠ -1) : 0 ≤ u.1 ∧ scalarP ((u.1.toNat : Nat) : Int) = true ∧ (l.drop u.2.1).take (u.2.2 - u.2.1) = encL u.1.toNat := by
  obtain ⟨j, hj, rfl⟩ := mem_units l _ k (Nat.le_refl _) u hu
  simp only at hb ⊢
  obtain ⟨p, m, hg, e⟩ := uni_good hb
  obtain ⟨h1, h2⟩ := good_take_enc hg
  rw [e]
  simp only
  rw [Nat.add_sub_cancel_left]
  exact ⟨by omega, by simpa using h2, by simpa using h1.symm⟩
theorem enc_units (l : List UInt8) : ∀ (d k : Nat), l.length - k ≤ d → k ≤ l.length → (∀ u ∈ unitsAt l k, u.1 ≠ -1) → encAll ((unitsAt l k).map (·.1)) = l.drop k
  | 0, k, h, hk, _ => by
    rw [unitsAt_end l k (by omega), List.drop_eq_nil_of_le (by omega)]
    rfl
  | d + 1, k, h, hk, hb => by
    by_cases hlt : k < l.length
    · have h1 := drop_size l k hlt
      have hu := unitsAt_step l k hlt
      have hm : ((uniOf (l.drop k)).1, k, k + (uniOf (l.drop k)).2) ∈ unitsAt l k := by rw [hu]; exact List.mem_cons_self
      have hg := (unit_good hm (hb _ hm)).2.2
      simp only at hg
      rw [Nat.add_sub_cancel_left] at hg
      have ih := enc_units l d (k + (uniOf (l.drop k)).2) (by omega) (by omega) (fun u hu' => hb u (by rw [hu]; exact List.mem_cons_of_mem _ hu'))
      rw [hu, List.map_cons, encAll, List.flatMap_cons]
      rw [encAll] at ih
      rw [ih, ← hg, ← List.drop_drop, List.take_append_drop]
    · rw [unitsAt_end l k (by omega), List.drop_eq_nil_of_le (by omega)]
      rfl
theorem flat_ext {α : Type} (f g : α → List UInt8) : ∀ (l : List α), (∀ x ∈ l, f x = g x) → l.flatMap f = l.flatMap g
  | [], _ => rfl
  | x :: l, h => by rw [List.flatMap_cons, List.flatMap_cons, h x (.head _), flat_ext f g l (fun y hy => h y (.tail _ hy))]
/-- The points of an entry; true: at an end. -/
def qOf (l : List UInt8) : List (Nat × Bool) := (unitsOf l).map fun u => (u.1.toNat, decide (u.2.1 = 0 ∨ u.2.2 = l.length))
/-- An entry that may be. -/
structure EntG (l : List UInt8) : Prop where
  bad : ∀ u ∈ unitsOf l, u.1 ≠ -1
  pos : 0 < (unitsOf l).length
  few : (unitsOf l).length ≤ 32
theorem entG_of {l : List UInt8} (h : entF l = none) : EntG l := by
  unfold entF at h
  split at h
  · cases h
  · rename_i h1
    split at h
    · cases h
    · split at h
      · cases h
      · exact ⟨fun u hu e => h1 (List.any_eq_true.2 ⟨u, hu, by simp [e]⟩), by omega, by omega⟩
theorem wrE_q {l : List UInt8} (h : EntG l) : wrE l = wrQ (qOf l) := by
  unfold wrE wrQ qOf
  rw [List.flatMap_map]
  refine flat_ext _ _ _ (fun u hu => ?_)
  obtain ⟨h0, _, h2⟩ := unit_good hu (h.bad u hu)
  have e1 : u.1 = 92 ↔ u.1.toNat = 92 := by omega
  have e2 : u.1 = 35 ↔ u.1.toNat = 35 := by omega
  have e3 : u.1 = 32 ↔ u.1.toNat = 32 := by omega
  have e4 : (u.1 < 32 ∨ u.1 = 127) ↔ (u.1.toNat < 32 ∨ u.1.toNat = 127) := by omega
  unfold wrU wrP
  simp only [decide_eq_true_eq, h2, e1, e2, e3, e4]
theorem q_scalar {l : List UInt8} (h : EntG l) : ∀ q ∈ qOf l, scalarP (q.1 : Int) = true := fun q hq => by
  obtain ⟨u, hu, rfl⟩ := List.mem_map.1 hq
  exact (unit_good hu (h.bad u hu)).2.1
theorem q_points {l : List UInt8} (h : EntG l) : toI ((qOf l).map (·.1)) = (unitsOf l).map (·.1) := by
  unfold toI qOf
  rw [List.map_map, List.map_map]
  refine List.map_congr_left (fun u hu => ?_)
  have := (unit_good hu (h.bad u hu)).1
  simp only [Function.comp]
  omega
theorem q_enc {l : List UInt8} (h : EntG l) : encAll (toI ((qOf l).map (·.1))) = l := by
  rw [q_points h]
  have := enc_units l l.length 0 (by omega) (Nat.zero_le _) h.bad
  rw [List.drop_zero] at this
  exact this
theorem q_all {l : List UInt8} (h : EntG l) : (toI ((qOf l).map (·.1))).all scalarP = true := by
  refine List.all_eq_true.2 (fun x hx => ?_)
  unfold toI at hx
  obtain ⟨n, hn, rfl⟩ := List.mem_map.1 hx
  obtain ⟨q, hq, rfl⟩ := List.mem_map.1 hn
  exact q_scalar h q hq
theorem q_len (l : List UInt8) : ((qOf l).map (·.1)).length = (unitsOf l).length := by simp [qOf]
theorem q_ends {l : List UInt8} (h : EntG l) : ∃ p qs ps p', qOf l = (p, true) :: qs ∧ qOf l = ps ++ [(p', true)] := by
  have hl : (qOf l).length = (unitsOf l).length := by simp [qOf]
  have hp := h.pos
  have e0 : (qOf l)[0]'(by omega) = ((unitsOf l)[0].1.toNat, true) := by
    simp only [qOf, List.getElem_map, Prod.mk.injEq, true_and, decide_eq_true_eq]
    exact .inl ((units_at l 0 hp).1.2 rfl)
  have e1 : (qOf l)[(qOf l).length - 1]'(by omega) = ((unitsOf l)[(unitsOf l).length - 1].1.toNat, true) := by
    simp only [qOf, List.getElem_map, List.length_map, Prod.mk.injEq, true_and, decide_eq_true_eq]
    exact .inr ((units_at l _ (by omega)).2.2 (by omega))
  have hne : qOf l ≠ [] := fun e => by rw [e] at hl; simp at hl; omega
  have h3 := List.drop_eq_getElem_cons (l := qOf l) (i := 0) (by omega)
  rw [List.drop_zero] at h3
  refine ⟨(unitsOf l)[0].1.toNat, (qOf l).drop (0 + 1), (qOf l).dropLast, (unitsOf l)[(unitsOf l).length - 1].1.toNat, ?_, ?_⟩
  · rw [← e0]
    exact h3
  · rw [← e1, ← List.getLast_eq_getElem hne]
    exact (List.dropLast_concat_getLast hne).symm
theorem wrE_ends {l : List UInt8} (h : EntG l) : ∃ a x y b, wrE l = a :: x ∧ wrE l = y ++ [b] ∧ blankB a = false ∧ blankB b = false ∧ b ≠ 13 := by
  obtain ⟨p, qs, ps, p', e1, e2⟩ := q_ends h
  have s1 := q_scalar h (p, true) (by rw [e1]; simp)
  have s2 := q_scalar h (p', true) (by rw [e2]; simp)
  obtain ⟨a, x, _, _, w1, _, ha, _, _⟩ := wrP_ends s1
  obtain ⟨_, _, y, b, _, w2, _, hb, hb2⟩ := wrP_ends s2
  refine ⟨a, x ++ wrQ qs, wrQ ps ++ y, b, ?_, ?_, ha, hb, hb2⟩
  · rw [wrE_q h, e1, wrQ_cons, w1]; rfl
  · rw [wrE_q h, e2]
    unfold wrQ
    rw [List.flatMap_append, List.flatMap_singleton, w2, List.append_assoc]
/-- An edit's line. -/
theorem line_ed {P : List Sec} {n : Nat} {s : Sec} {e : Bool × ByteArray} {r : List UInt8} (he : entF e.2.data.toList = none) (hn : nEd (P ++ [s]) < 20000) : parA (P ++ [s]) n (wrX e ++ r) = parA (P ++ [⟨s.loc, s.par, s.ed ++ [e]⟩]) (n + 1) r := by
  have hg := entG_of he
  obtain ⟨a, x, y, b, w1, w2, ha, hb, hb13⟩ := wrE_ends hg
  obtain ⟨ad, t⟩ := e
  simp only at he hg w1 w2
  obtain ⟨sg, hsg⟩ : ∃ sg : UInt8, sg = if ad = true then 43 else 45 := ⟨_, rfl⟩
  have hsc : sg = 43 ∨ sg = 45 := by rw [hsg]; split <;> simp
  have e0 : wrX (ad, t) ++ r = (sg :: 32 :: wrE t.data.toList) ++ 10 :: r := by
    unfold wrX
    cases ad <;> simp [hsg]
  have hl : sg :: 32 :: wrE t.data.toList = (sg :: 32 :: y) ++ [b] := by rw [w2]; rfl
  have h10 : (10 : UInt8) ∉ wrE t.data.toList := by rw [wrE_q hg]; exact wrQ_no10 _ (q_scalar hg)
  rw [e0, parA_line]
  rotate_left
  · intro hm
    rcases List.mem_cons.1 hm with h | h
    · rcases hsc with h2 | h2 <;> rw [h2] at h <;> cases h
    · rcases List.mem_cons.1 h with h | h
      · cases h
      · exact h10 h
  · rw [hl, last_app]
    intro h
    injection h with h
    exact hb13 h
  have e1 : noC (sg :: 32 :: wrE t.data.toList) = sg :: 32 :: wrE t.data.toList := by
    have h1 := noC_app [sg, 32] (wrE t.data.toList) (fun c hc => by
      simp only [List.mem_cons, List.not_mem_nil, or_false] at hc
      rcases hc with rfl | rfl
      · rcases hsc with h2 | h2 <;> rw [h2] <;> decide
      · decide)
    rw [show noC (wrE t.data.toList) = wrE t.data.toList by rw [wrE_q hg]; exact wrQ_noC _ (q_scalar hg)] at h1
    exact h1
  have e2 : lineB (sg :: 32 :: wrE t.data.toList) = sg :: 32 :: wrE t.data.toList := by
    unfold lineB
    rw [e1]
    exact trimS_id hl (by rcases hsc with h2 | h2 <;> rw [h2] <;> decide) hb
  have e3 : ∀ ad', edS (P ++ [s]) ad' (32 :: wrE t.data.toList) = .go (P ++ [⟨s.loc, s.par, s.ed ++ [(ad', t)]⟩]) := fun ad' => by
    unfold edS
    have hq := q_len t.data.toList
    have hp := hg.pos
    have hf := hg.few
    have e7 : strOf t.data.toList = t := rfl
    rw [trimL_one, w1, trimL_id ha, ← w1, wrE_q hg, pnts_wrQ _ (q_scalar hg)]
    simp only
    rw [if_pos ⟨q_all hg, by omega⟩]
    simp only [List.getLast?_append, List.getLast?_singleton, Option.some_or, List.dropLast_concat]
    rw [if_pos ⟨by omega, hn⟩, q_enc hg, e7]
  have e4 : lineS (P ++ [s]) (sg :: 32 :: wrE t.data.toList) = .go (P ++ [⟨s.loc, s.par, s.ed ++ [(ad, t)]⟩]) := by
    unfold lineS
    rw [if_neg (by simp)]
    cases ad with
    | true =>
      have hs : sg = 43 := hsg
      subst hs
      rw [if_neg (by simp [Lib.hasPrefix, List.isPrefixOf]), if_neg (by simp [Lib.hasPrefix, parW, List.isPrefixOf]), if_pos (by simp [Lib.hasPrefix, List.isPrefixOf]), show Lib.trimPrefix (43 :: 32 :: wrE t.data.toList) [43] = 32 :: wrE t.data.toList by simp [Lib.trimPrefix, Lib.hasPrefix, List.isPrefixOf]]
      exact e3 true
    | false =>
      have hs : sg = 45 := hsg
      subst hs
      rw [if_neg (by simp [Lib.hasPrefix, List.isPrefixOf]), if_neg (by simp [Lib.hasPrefix, parW, List.isPrefixOf]), if_neg (by simp [Lib.hasPrefix, List.isPrefixOf]), if_pos (by simp [Lib.hasPrefix, List.isPrefixOf]), show Lib.trimPrefix (45 :: 32 :: wrE t.data.toList) [45] = 32 :: wrE t.data.toList by simp [Lib.trimPrefix, Lib.hasPrefix, List.isPrefixOf]]
      exact e3 false
  rw [e2, e4]
theorem lines_ed {P : List Sec} {loc par : ByteArray} {r : List UInt8} : ∀ (es ed : List (Bool × ByteArray)) (n : Nat), (∀ e ∈ es, entF e.2.data.toList = none) → nEd (P ++ [⟨loc, par, ed⟩]) + es.length ≤ 20000 → ∃ n', parA (P ++ [⟨loc, par, ed⟩]) n (es.flatMap wrX ++ r) = parA (P ++ [⟨loc, par, ed ++ es⟩]) n' r
  | [], ed, n, _, _ => ⟨n, by simp⟩
  | e :: es, ed, n, h, hn => by
    rw [List.length_cons] at hn
    have h1 : nEd (P ++ [⟨loc, par, ed ++ [e]⟩]) = nEd (P ++ [⟨loc, par, ed⟩]) + 1 := by rw [nEd_snoc, nEd_snoc]; simp; omega
    obtain ⟨n', h2⟩ := lines_ed (P := P) (loc := loc) (par := par) (r := r) es (ed ++ [e]) (n + 1) (fun x hx => h x (.tail _ hx)) (by omega)
    refine ⟨n', ?_⟩
    rw [List.flatMap_cons, List.append_assoc, line_ed (s := ⟨loc, par, ed⟩) (h e (.head _)) (by omega), h2, List.append_assoc]
    rfl
theorem inv_front {P L : List Sec} (h : Inv (P ++ L)) : Inv P := by
  have h1 : nEd (P ++ L) = nEd P + nEd L := by unfold nEd; rw [List.map_append, List.sum_append]
  have h2 := h.ned
  have h3 := h.len
  rw [List.length_append] at h3
  exact ⟨by omega, by omega, fun s hs => h.ok s (List.mem_append.2 (.inl hs)), (List.pairwise_append.1 h.pw).1⟩
theorem data_nil {s : ByteArray} (h : s.data.toList = []) : s = ⟨#[]⟩ := by
  have h1 : s = strOf s.data.toList := rfl
  rw [h1, h]
  rfl
theorem line_sec {P : List Sec} {s : Sec} {n : Nat} {r : List UInt8} (h : Inv (P ++ [s])) : ∃ n', parA P n (secB s ++ r) = parA (P ++ [s]) n' r := by
  have hg := h.ok s (by simp)
  have hl := h.len
  rw [List.length_append, List.length_singleton] at hl
  have hd : ∀ x ∈ P, x.loc ≠ s.loc := fun x hx => (List.pairwise_append.1 h.pw).2.2 x hx s (by simp)
  have hn := h.ned
  have h0 : nEd (P ++ [⟨s.loc, s.par, []⟩]) + s.ed.length = nEd (P ++ [s]) := by rw [nEd_snoc, nEd_snoc]; simp
  obtain ⟨loc, par, ed⟩ := s
  simp only at hg hd h0
  by_cases hp : par.data.toList = []
  · have hp2 := data_nil hp
    subst hp2
    obtain ⟨n', h2⟩ := lines_ed (P := P) (loc := loc) (par := ⟨#[]⟩) (r := r) ed [] (n + 1) hg.ent (by omega)
    refine ⟨n', ?_⟩
    have e0 : secB ⟨loc, ⟨#[]⟩, ed⟩ = [91] ++ loc.data.toList ++ [93, 10] ++ ed.flatMap wrX := by simp [secB]
    rw [e0, List.append_assoc, line_head hg.loc (by omega) hd, h2]
    rfl
  · have hpt : isTagB par = true := hg.par.resolve_left (fun e => hp (by have e2 : par = ⟨#[]⟩ := e; rw [e2]))
    have hr : loc ≠ rootS := fun e => hp (by have e2 : par = ⟨#[]⟩ := hg.root e; rw [e2])
    obtain ⟨n', h2⟩ := lines_ed (P := P) (loc := loc) (par := par) (r := r) ed [] (n + 1 + 1) hg.ent (by omega)
    refine ⟨n', ?_⟩
    have e0 : secB ⟨loc, par, ed⟩ = [91] ++ loc.data.toList ++ [93, 10] ++ ([112, 97, 114, 101, 110, 116, 32] ++ par.data.toList ++ [10]) ++ ed.flatMap wrX := by unfold secB; simp only; rw [if_neg hp]
    rw [e0, List.append_assoc, List.append_assoc, line_head hg.loc (by omega) hd, line_par hpt hr, h2]
    rfl
theorem lines_file : ∀ (L P : List Sec) (n : Nat), Inv (P ++ L) → ∃ n', parA P n (prB L) = parA (P ++ L) n' []
  | [], P, n, _ => ⟨n, by simp [prB]⟩
  | s :: L, P, n, h => by
    have e : P ++ s :: L = (P ++ [s]) ++ L := by simp
    rw [e] at h
    obtain ⟨n1, h1⟩ := line_sec (n := n) (r := prB L) (inv_front h)
    obtain ⟨n2, h2⟩ := lines_file L (P ++ [s]) n1 h
    refine ⟨n2, ?_⟩
    rw [e, ← h2, ← h1]
    rfl
/-- What is written is read as it was. -/
theorem prs_prB {L : List Sec} (h : Inv L) : prsL (prB L) = .ok L := by
  obtain ⟨n, h1⟩ := lines_file L [] 0 (by simpa using h)
  unfold prsL
  rw [h1, parA_end]
  simp
end Go.Proofs.YtlfeiadgahdgoaaGreatDoor
namespace Go.Proofs.YtlfeiadgahdgoaaGreatDoor
open Go.RowKit Go.Shelf Go.Lib
set_option maxRecDepth 10000 in
theorem refBlank_any (c : UInt8) (w : World) : Calls Tryz.prog 51 #[.int .u8 (c.toNat : Int)] w fun e w' => e = .returned (.bool (blankB c)) ∧ w' = w := by
  have hb : blankB c = (((c.toNat : Int) == 32) || ((c.toNat : Int) == 9)) := all256 (p := fun c => blankB c = (((c.toNat : Int) == 32) || ((c.toNat : Int) == 9))) (by decide +kernel) c
  rw [hb]
  generalize (c.toNat : Int) = n
  cases h1 : (n == 32) with
  | true =>
    go_enter Tryz.func51, Tryz.ntmps51
    go_wp2
    go_ret
    exact ⟨rfl, rfl⟩
  | false =>
    go_enter Tryz.func51, Tryz.ntmps51
    go_wp2
    go_ret
    exact ⟨by simp, rfl⟩
theorem trimR_cons (a : UInt8) (t : List UInt8) : Lib.trimRightS (a :: t) [32, 9] = if blankB a = true ∧ Lib.trimRightS t [32, 9] = [] then [] else a :: Lib.trimRightS t [32, 9] := by
  unfold Lib.trimRightS blankB
  rw [List.reverse_cons, List.dropWhile_append]
  cases h : t.reverse.dropWhile ([32, 9].contains ·) with
  | nil =>
    simp only [List.isEmpty_nil, if_true, List.reverse_nil, and_true]
    rw [List.dropWhile_cons]
    cases hc : ([32, 9] : List UInt8).contains a with
    | true => simp
    | false => simp
  | cons b r => simp
theorem trim_comm : ∀ (l : List UInt8), Lib.trimRightS (Lib.trimLeftS l [32, 9]) [32, 9] = Lib.trimS l [32, 9]
  | [] => by decide
  | a :: t => by
    have ih := trim_comm t
    unfold Lib.trimS at ih ⊢
    cases ha : blankB a with
    | true =>
      have e1 : Lib.trimLeftS (a :: t) [32, 9] = Lib.trimLeftS t [32, 9] := by
        unfold Lib.trimLeftS
        rw [List.dropWhile_cons, if_pos (by unfold blankB at ha; exact ha)]
      rw [e1, ih, trimR_cons]
      by_cases h2 : Lib.trimRightS t [32, 9] = []
      · rw [if_pos ⟨ha, h2⟩, h2]
      · rw [if_neg (fun h => h2 h.2)]
        unfold Lib.trimLeftS
        rw [List.dropWhile_cons, if_pos (by unfold blankB at ha; exact ha)]
    | false =>
      rw [trimL_id ha, trimR_cons, if_neg (fun h => by rw [ha] at h; cases h.1), trimL_id ha]
theorem trimL_blank {a : UInt8} {t : List UInt8} (h : blankB a = true) : Lib.trimLeftS (a :: t) [32, 9] = Lib.trimLeftS t [32, 9] := by
  unfold Lib.trimLeftS
  rw [List.dropWhile_cons, if_pos (by unfold blankB at h; exact h)]
theorem trimR_blank {b : UInt8} {x : List UInt8} (h : blankB b = true) : Lib.trimRightS (x ++ [b]) [32, 9] = Lib.trimRightS x [32, 9] := by
  unfold Lib.trimRightS
  rw [List.reverse_append, List.reverse_singleton, List.singleton_append, List.dropWhile_cons, if_pos (by unfold blankB at h; exact h)]
set_option maxRecDepth 10000 in
set_option maxHeartbeats 800000 in
theorem refTrim_any (l : List UInt8) (hl : l.length ≤ 4194400) (w : World) : Calls Tryz.prog 47 #[.string (strOf l)] w fun e w' => e = .returned (.string (strOf (Lib.trimS l [32, 9]))) ∧ w' = w := by
  obtain ⟨Y, hY⟩ : ∃ Y, Y = strOf (Lib.trimS l [32, 9]) := ⟨_, rfl⟩
  rw [← hY]
  have HY := hid0 hY
  clear hY
  go_enter Tryz.func47, Tryz.ntmps47
  go_wp2
  go_loopw [0] (fun s wr => ∃ B : ByteArray, s = .string B ∧ B.size ≤ 4194400 ∧ wr = w ∧ Hid (Lib.trimLeftS l [32, 9] = Lib.trimLeftS B.data.toList [32, 9])) (fun s _ => (match s with | .string x => x.size | _ => 0))
  case atStart => exact ⟨strOf l, rfl, by rw [strOf_size]; exact hl, rfl, hid0 (by rw [strOf_data])⟩
  case round =>
    obtain ⟨B, rfl, hB, rfl, HT⟩ := hrel
    by_cases h0 : 0 < B.size
    · have h0I : (0 : Int) < (B.size : Int) := by omega
      have hd0 : decide ((0 : Int) < (B.size : Int)) = true := decide_eq_true h0I
      have h1I : (1 : Int) ≤ (B.size : Int) := by omega
      have hbl := fun W => refBlank_any B[0] W
      have hcons : B.data.toList = B[0] :: (B.extract 1 B.size).data.toList := by
        rw [ext_tail]
        have hlen : 0 < B.data.toList.length := by rw [bsize]; exact h0
        have := List.drop_eq_getElem_cons hlen
        rw [List.drop_zero] at this
        exact this
      cases hb : blankB B[0] with
      | true =>
        rw [hb] at hbl
        have HBl := hid0 hbl
        have HN : Hid (Lib.trimLeftS l [32, 9] = Lib.trimLeftS (B.extract 1 B.size).data.toList [32, 9]) := hid0 (by rw [HT.out, hcons, trimL_blank hb])
        have hsz : (B.extract 1 B.size).size = B.size - 1 := by simp
        clear hbl hb hcons HT
        go_wp2_with (go_at_call 51; refine (HBl.out _).mono ?_; rintro e w1 ⟨rfl, hw1⟩; have hw1' := hw1.symm; subst hw1'; clear hw1)
        go_roundw
        case rel => exact ⟨_, rfl, by rw [hsz]; omega, trivial, HN⟩
        case measure => simp only [hsz]; omega
      | false =>
        rw [hb] at hbl
        have HBl := hid0 hbl
        have HN : Hid (Lib.trimLeftS l [32, 9] = B.data.toList) := hid0 (by rw [HT.out, hcons, trimL_id hb])
        clear hbl hb hcons HT
        go_wp2_with (go_at_call 51; refine (HBl.out _).mono ?_; rintro e w1 ⟨rfl, hw1⟩; have hw1' := hw1.symm; subst hw1'; clear hw1)
        go_loopw [0] (fun s wz => ∃ C : ByteArray, s = .string C ∧ C.size ≤ 4194400 ∧ wz = wr ∧ Hid (Lib.trimS l [32, 9] = Lib.trimRightS C.data.toList [32, 9])) (fun s _ => (match s with | .string x => x.size | _ => 0))
        case atStart => exact ⟨B, rfl, hB, rfl, hid0 (by rw [← trim_comm, HN.out])⟩
        case round =>
          obtain ⟨C, rfl, hC, rfl, HR⟩ := hrel
          by_cases c0 : 0 < C.size
          · have c0I : (0 : Int) < (C.size : Int) := by omega
            have cd0 : decide ((0 : Int) < (C.size : Int)) = true := decide_eq_true c0I
            obtain ⟨m, hm⟩ : ∃ m : Nat, C.size = m + 1 := ⟨C.size - 1, by omega⟩
            have hmI : (C.size : Int) - 1 = (m : Int) := by omega
            have hm0 : (0 : Int) ≤ (m : Int) := by omega
            have hm1 : (m : Int) < (C.size : Int) := by omega
            have hm2 : m < C.size := by omega
            have hm3 : (m : Int) ≤ (C.size : Int) := by omega
            have hcl := fun W => refBlank_any C[m] W
            have hsnoc : C.data.toList = (C.extract 0 m).data.toList ++ [C[m]] := by
              rw [ext_head]
              have hlen : m < C.data.toList.length := by rw [bsize]; exact hm2
              have h1 := List.take_succ_eq_append_getElem hlen
              rw [List.take_of_length_le (by rw [bsize]; omega)] at h1
              exact h1
            cases cb : blankB C[m] with
            | true =>
              rw [cb] at hcl
              have HCl := hid0 hcl
              have HN2 : Hid (Lib.trimS l [32, 9] = Lib.trimRightS (C.extract 0 m).data.toList [32, 9]) := hid0 (by rw [HR.out, hsnoc, trimR_blank cb])
              have hsz : (C.extract 0 m).size = m := by simp; omega
              clear hcl cb hsnoc HR hm
              go_wp2_with (go_at_call 51; refine (HCl.out _).mono ?_; rintro e w1 ⟨rfl, hw1⟩; have hw1' := hw1.symm; subst hw1'; clear hw1)
              go_roundw
              case rel => exact ⟨_, rfl, by rw [hsz]; omega, trivial, HN2⟩
              case measure => simp only [hsz]; omega
            | false =>
              rw [cb] at hcl
              have HCl := hid0 hcl
              have HX : Hid (C = Y) := hid0 (by rw [HY.out, HR.out, hsnoc, trimR_id cb, ← hsnoc]; rfl)
              clear hcl cb hsnoc HR hm
              go_wp2_with (go_at_call 51; refine (HCl.out _).mono ?_; rintro e w1 ⟨rfl, hw1⟩; have hw1' := hw1.symm; subst hw1'; clear hw1)
              go_ret
              exact ⟨congrArg (fun y => Ending.returned (.string y)) HX.out, rfl⟩
          · have c0I : ¬ (0 : Int) < (C.size : Int) := by omega
            have cd0 : decide ((0 : Int) < (C.size : Int)) = false := decide_eq_false c0I
            have HX : Hid (C = Y) := hid0 (by
              have hz : C.data.toList = [] := List.length_eq_zero_iff.1 (by rw [bsize]; omega)
              exact (data_nil hz).trans (by rw [HY.out, HR.out, hz]; rfl))
            go_wp2
            go_ret
            exact ⟨congrArg (fun y => Ending.returned (.string y)) HX.out, rfl⟩
    · have h0I : ¬ (0 : Int) < (B.size : Int) := by omega
      have hd0 : decide ((0 : Int) < (B.size : Int)) = false := decide_eq_false h0I
      have HN : Hid (Lib.trimLeftS l [32, 9] = B.data.toList) := hid0 (by
        have hz : B.data.toList = [] := List.length_eq_zero_iff.1 (by rw [bsize]; omega)
        rw [HT.out, hz]
        rfl)
      go_wp2
      go_loopw [0] (fun s wz => ∃ C : ByteArray, s = .string C ∧ C.size ≤ 4194400 ∧ wz = wr ∧ Hid (Lib.trimS l [32, 9] = Lib.trimRightS C.data.toList [32, 9])) (fun s _ => (match s with | .string x => x.size | _ => 0))
      case atStart => exact ⟨B, rfl, hB, rfl, hid0 (by rw [← trim_comm, HN.out])⟩
      case round =>
        obtain ⟨C, rfl, hC, rfl, HR⟩ := hrel
        by_cases c0 : 0 < C.size
        · have c0I : (0 : Int) < (C.size : Int) := by omega
          have cd0 : decide ((0 : Int) < (C.size : Int)) = true := decide_eq_true c0I
          obtain ⟨m, hm⟩ : ∃ m : Nat, C.size = m + 1 := ⟨C.size - 1, by omega⟩
          have hmI : (C.size : Int) - 1 = (m : Int) := by omega
          have hm0 : (0 : Int) ≤ (m : Int) := by omega
          have hm1 : (m : Int) < (C.size : Int) := by omega
          have hm2 : m < C.size := by omega
          have hm3 : (m : Int) ≤ (C.size : Int) := by omega
          have hcl := fun W => refBlank_any C[m] W
          have hsnoc : C.data.toList = (C.extract 0 m).data.toList ++ [C[m]] := by
            rw [ext_head]
            have hlen : m < C.data.toList.length := by rw [bsize]; exact hm2
            have h1 := List.take_succ_eq_append_getElem hlen
            rw [List.take_of_length_le (by rw [bsize]; omega)] at h1
            exact h1
          cases cb : blankB C[m] with
          | true =>
            rw [cb] at hcl
            have HCl := hid0 hcl
            have HN2 : Hid (Lib.trimS l [32, 9] = Lib.trimRightS (C.extract 0 m).data.toList [32, 9]) := hid0 (by rw [HR.out, hsnoc, trimR_blank cb])
            have hsz : (C.extract 0 m).size = m := by simp; omega
            clear hcl cb hsnoc HR hm
            go_wp2_with (go_at_call 51; refine (HCl.out _).mono ?_; rintro e w1 ⟨rfl, hw1⟩; have hw1' := hw1.symm; subst hw1'; clear hw1)
            go_roundw
            case rel => exact ⟨_, rfl, by rw [hsz]; omega, trivial, HN2⟩
            case measure => simp only [hsz]; omega
          | false =>
            rw [cb] at hcl
            have HCl := hid0 hcl
            have HX : Hid (C = Y) := hid0 (by rw [HY.out, HR.out, hsnoc, trimR_id cb, ← hsnoc]; rfl)
            clear hcl cb hsnoc HR hm
            go_wp2_with (go_at_call 51; refine (HCl.out _).mono ?_; rintro e w1 ⟨rfl, hw1⟩; have hw1' := hw1.symm; subst hw1'; clear hw1)
            go_ret
            exact ⟨congrArg (fun y => Ending.returned (.string y)) HX.out, rfl⟩
        · have c0I : ¬ (0 : Int) < (C.size : Int) := by omega
          have cd0 : decide ((0 : Int) < (C.size : Int)) = false := decide_eq_false c0I
          have HX : Hid (C = Y) := hid0 (by
            have hz : C.data.toList = [] := List.length_eq_zero_iff.1 (by rw [bsize]; omega)
            exact (data_nil hz).trans (by rw [HY.out, HR.out, hz]; rfl))
          go_wp2
          go_ret
          exact ⟨congrArg (fun y => Ending.returned (.string y)) HX.out, rfl⟩
set_option maxRecDepth 10000 in
set_option maxHeartbeats 800000 in
theorem refBare_any (s : ByteArray) (hs : s.size ≤ 1000000000) (w : World) : Calls Tryz.prog 48 #[.string s] w fun e w' => e = .returned (.string (strOf (noC s.data.toList))) ∧ w' = w := by
  have HSz : Hid (s.data.toList.length = s.size) := hid0 (bsize s)
  obtain ⟨Y, hY⟩ : ∃ Y, Y = strOf (noC s.data.toList) := ⟨_, rfl⟩
  rw [← hY]
  have HY := hid0 hY
  clear hY
  go_enter Tryz.func48, Tryz.ntmps48
  go_wp2
  go_loopw [3] (fun i wr => ∃ k : Nat, k ≤ s.size + 1 ∧ i = .int .i64 (k : Int) ∧ wr = w ∧ Hid (noC s.data.toList = s.data.toList.take k ++ noC (s.data.toList.drop k))) (fun i _ => s.size + 1 - (intOf i).toNat)
  case atStart => exact ⟨0, Nat.zero_le _, rfl, rfl, hid0 (by simp)⟩
  case round =>
    obtain ⟨k, hk, rfl, rfl, HK⟩ := hrel
    by_cases hlt : k < s.size
    · have hkI : (k : Int) < (s.size : Int) := by omega
      have hkI0 : (0 : Int) ≤ (k : Int) := by omega
      have hkL : k < s.data.toList.length := by rw [HSz.out]; exact hlt
      obtain ⟨n1, n2, n3⟩ := noC_at hkL HK.out
      have hg : s.data.toList[k] = s[k] := by simp; rfl
      rw [hg] at n1 n2 n3
      by_cases h1 : s[k] = 35
      · have q1 : ((s[k].toNat : Int) == 35) = true := by rw [h1]; rfl
        have HX : Hid (s.extract 0 k = Y) := hid0 (by rw [HY.out, n1 h1, ← ext_head]; rfl)
        have hk1 : (k : Int) ≤ (s.size : Int) := by omega
        clear n1 n2 n3 HK hg h1
        go_wp2
        rw [HX.out]
        go_ret
        exact ⟨rfl, rfl⟩
      · have q1 : ((s[k].toNat : Int) == 35) = false := by
          have : s[k].toNat ≠ 35 := fun h => h1 (UInt8.toNat.inj h)
          simp; omega
        by_cases h2 : s[k] = 92
        · have q2 : ((s[k].toNat : Int) == 92) = true := by rw [h2]; rfl
          have HN := hid0 (n2 h2)
          clear n1 n2 n3 HK hg h1 h2
          go_wp2
          go_roundw
          case rel => exact ⟨k + 2, by omega, by go_num, trivial, HN⟩
          case measure => simp [intOf]; omega
        · have q2 : ((s[k].toNat : Int) == 92) = false := by
            have : s[k].toNat ≠ 92 := fun h => h2 (UInt8.toNat.inj h)
            simp; omega
          have HN := hid0 (n3 h1 h2)
          clear n1 n2 n3 HK hg h1 h2
          go_wp2
          go_roundw
          case rel => exact ⟨k + 1, by omega, by go_num, trivial, HN⟩
          case measure => simp [intOf]; omega
    · have hkI : ¬ (k : Int) < (s.size : Int) := by omega
      have HX : Hid (s = Y) := hid0 (by
        have hz := HSz.out
        rw [HY.out, HK.out, List.take_of_length_le (by omega), List.drop_eq_nil_of_le (by omega), show noC [] = [] by simp [noC], List.append_nil]
        rfl)
      go_wp2
      go_ret
      exact ⟨congrArg (fun y => Ending.returned (.string y)) HX.out, rfl⟩
/-- The number of a hexadecimal digit; -1: it is none. -/
def hexI (c : UInt8) : Int := if isHx c = true then (hxv c : Int) else -1
set_option maxRecDepth 10000 in
set_option maxHeartbeats 800000 in
theorem refHexa_any (c : UInt8) (w : World) : Calls Tryz.prog 168 #[.int .u8 (c.toNat : Int)] w fun e w' => e = .returned (.int .i64 (hexI c)) ∧ w' = w := by
  have HD := hid0 (refDigit_any c w)
  have hc : c.toNat < 256 := c.toNat_lt
  have h1 : isDi c = (decide (48 ≤ c.toNat) && decide (c.toNat ≤ 57)) := rfl
  have HX : Hid (hexI c = if 48 ≤ c.toNat ∧ c.toNat ≤ 57 then (c.toNat : Int) - 48 else if 97 ≤ c.toNat ∧ c.toNat ≤ 102 then (c.toNat : Int) - 97 + 10 else if 65 ≤ c.toNat ∧ c.toNat ≤ 70 then (c.toNat : Int) - 65 + 10 else -1) := hid0 (all256 (p := fun c => hexI c = if 48 ≤ c.toNat ∧ c.toNat ≤ 57 then (c.toNat : Int) - 48 else if 97 ≤ c.toNat ∧ c.toNat ≤ 102 then (c.toNat : Int) - 97 + 10 else if 65 ≤ c.toNat ∧ c.toNat ≤ 70 then (c.toNat : Int) - 65 + 10 else -1) (by decide +kernel) c)
  rw [HX.out]
  rw [h1] at HD
  clear HX h1
  generalize c.toNat = n at *
  have hn0 : (0 : Int) ≤ (n : Int) := by omega
  have hn2 : (n : Int) < 256 := by omega
  by_cases a1 : 48 ≤ n ∧ n ≤ 57
  · rw [if_pos a1]
    rw [decide_eq_true a1.1, decide_eq_true a1.2] at HD
    have q1 : IntKind.u8.wrap ((n : Int) - 48) = (n : Int) - 48 := by rw [IntKind.wrap_u8]; omega
    have q2 : IntKind.i64.wrap ((n : Int) - 48) = (n : Int) - 48 := by simp [IntKind.wrap, IntKind.bits, IntKind.signed]; omega
    go_enter Tryz.func168, Tryz.ntmps168
    go_wp2_with (go_at_call 144; refine HD.out.mono ?_; rintro e w1 ⟨rfl, hw1⟩; have hw1' := hw1.symm; subst hw1'; clear hw1)
    go_ret
    exact ⟨rfl, rfl⟩
  · rw [if_neg a1]
    rw [show (decide (48 ≤ n) && decide (n ≤ 57)) = false by simp; omega] at HD
    clear a1
    by_cases a2 : 97 ≤ n ∧ n ≤ 102
    · rw [if_pos a2]
      have c1 : (97 : Int) ≤ (n : Int) := by omega
      have c2 : (n : Int) ≤ 102 := by omega
      have d1 : decide ((97 : Int) ≤ (n : Int)) = true := decide_eq_true c1
      have d2 : decide ((n : Int) ≤ 102) = true := decide_eq_true c2
      have q1 : IntKind.u8.wrap ((n : Int) - 97) = (n : Int) - 97 := by rw [IntKind.wrap_u8]; omega
      have q2 : IntKind.i64.wrap ((n : Int) - 97) = (n : Int) - 97 := by simp [IntKind.wrap, IntKind.bits, IntKind.signed]; omega
      clear a2
      go_enter Tryz.func168, Tryz.ntmps168
      go_wp2_with (go_at_call 144; refine HD.out.mono ?_; rintro e w1 ⟨rfl, hw1⟩; have hw1' := hw1.symm; subst hw1'; clear hw1)
      go_ret
      exact ⟨rfl, rfl⟩
    · rw [if_neg a2]
      by_cases a3 : 65 ≤ n ∧ n ≤ 70
      · rw [if_pos a3]
        have c0 : ¬ (97 : Int) ≤ (n : Int) := by omega
        have d0 : decide ((97 : Int) ≤ (n : Int)) = false := decide_eq_false c0
        have c1 : (65 : Int) ≤ (n : Int) := by omega
        have c2 : (n : Int) ≤ 70 := by omega
        have d1 : decide ((65 : Int) ≤ (n : Int)) = true := decide_eq_true c1
        have d2 : decide ((n : Int) ≤ 70) = true := decide_eq_true c2
        have q1 : IntKind.u8.wrap ((n : Int) - 65) = (n : Int) - 65 := by rw [IntKind.wrap_u8]; omega
        have q2 : IntKind.i64.wrap ((n : Int) - 65) = (n : Int) - 65 := by simp [IntKind.wrap, IntKind.bits, IntKind.signed]; omega
        clear a2 a3
        go_enter Tryz.func168, Tryz.ntmps168
        go_wp2_with (go_at_call 144; refine HD.out.mono ?_; rintro e w1 ⟨rfl, hw1⟩; have hw1' := hw1.symm; subst hw1'; clear hw1)
        go_ret
        exact ⟨rfl, rfl⟩
      · rw [if_neg a3]
        by_cases c0 : (97 : Int) ≤ (n : Int)
        · have d0 : decide ((97 : Int) ≤ (n : Int)) = true := decide_eq_true c0
          have c1 : ¬ (n : Int) ≤ 102 := by omega
          have d1 : decide ((n : Int) ≤ 102) = false := decide_eq_false c1
          have c2 : (65 : Int) ≤ (n : Int) := by omega
          have d2 : decide ((65 : Int) ≤ (n : Int)) = true := decide_eq_true c2
          have c3 : ¬ (n : Int) ≤ 70 := by omega
          have d3 : decide ((n : Int) ≤ 70) = false := decide_eq_false c3
          clear a2 a3
          go_enter Tryz.func168, Tryz.ntmps168
          go_wp2_with (go_at_call 144; refine HD.out.mono ?_; rintro e w1 ⟨rfl, hw1⟩; have hw1' := hw1.symm; subst hw1'; clear hw1)
          go_ret
          exact ⟨rfl, rfl⟩
        · have d0 : decide ((97 : Int) ≤ (n : Int)) = false := decide_eq_false c0
          by_cases c2 : (65 : Int) ≤ (n : Int)
          · have d2 : decide ((65 : Int) ≤ (n : Int)) = true := decide_eq_true c2
            have c3 : ¬ (n : Int) ≤ 70 := by omega
            have d3 : decide ((n : Int) ≤ 70) = false := decide_eq_false c3
            clear a2 a3
            go_enter Tryz.func168, Tryz.ntmps168
            go_wp2_with (go_at_call 144; refine HD.out.mono ?_; rintro e w1 ⟨rfl, hw1⟩; have hw1' := hw1.symm; subst hw1'; clear hw1)
            go_ret
            exact ⟨rfl, rfl⟩
          · have d2 : decide ((65 : Int) ≤ (n : Int)) = false := decide_eq_false c2
            clear a2 a3
            go_enter Tryz.func168, Tryz.ntmps168
            go_wp2_with (go_at_call 144; refine HD.out.mono ?_; rintro e w1 ⟨rfl, hw1⟩; have hw1' := hw1.symm; subst hw1'; clear hw1)
            go_ret
            exact ⟨rfl, rfl⟩
end Go.Proofs.YtlfeiadgahdgoaaGreatDoor
namespace Go.Proofs.YtlfeiadgahdgoaaGreatDoor
open Go.RowKit Go.Shelf Go.Lib
theorem index_not (c : UInt8) : ∀ (x : List UInt8), c ∉ x → index x [c] = -1
  | [], _ => by simp [index]
  | a :: x, h => by
    have h1 : a ≠ c := fun e => h (by rw [e]; exact List.mem_cons_self)
    rw [index_ne a c _ h1, index_not c x (fun hm => h (List.mem_cons_of_mem _ hm))]
    rfl
theorem cut_cases (t : List UInt8) (c : UInt8) : (∃ x y, t = x ++ c :: y ∧ c ∉ x ∧ Lib.cut t [c] = (x, y, true)) ∨ (c ∉ t ∧ Lib.cut t [c] = (t, [], false)) := by
  by_cases h : c ∈ t
  · obtain ⟨x, y, e, hx⟩ := List.eq_append_cons_of_mem h
    exact .inl ⟨x, y, e, hx, by rw [e]; exact cut_at c x y hx⟩
  · refine .inr ⟨h, ?_⟩
    unfold Lib.cut
    rw [index_not c t h, if_neg (by decide)]
def brcF (l : List UInt8) : Int × Int := match numF l with
  | some x => ((x.1 : Int), (l.length : Int) - (x.2.length : Int))
  | none => (0, 0)
theorem hx125 : isHx 125 = false := by decide
/-- Where no number in braces stands. -/
theorem num_none {t : List UInt8} {j : Nat} (hj : j ≤ t.length) (hx : ∀ c ∈ t.take j, isHx c = true) (h : ∀ (hlt : j < t.length), t[j] ≠ 125 ∧ (isHx t[j] = false ∨ 6 ≤ j)) : numF (92 :: 117 :: 123 :: t) = none := by
  unfold numF
  rw [if_neg]
  rintro ⟨_, h2, h3, h4, h5⟩
  have ht : Lib.trimPrefix (92 :: 117 :: 123 :: t) [92, 117, 123] = t := by simp [Lib.trimPrefix, Lib.hasPrefix, List.isPrefixOf]
  unfold numC at h2 h3 h4 h5
  rw [ht] at h2 h3 h4 h5
  rcases cut_cases t 125 with ⟨x, y, e, hx2, ec⟩ | ⟨_, ec⟩
  · rw [ec] at h3 h4 h5
    simp only at h3 h4 h5
    have hlx : x.length < t.length := by rw [e]; simp
    have hge : j ≤ x.length := by
      by_cases hlt : x.length < j
      · exfalso
        have hm : (125 : UInt8) ∈ t.take j := by
          rw [e, List.take_append, List.take_of_length_le (by omega)]
          obtain ⟨q, hq⟩ : ∃ q, j - x.length = q + 1 := ⟨j - x.length - 1, by omega⟩
          rw [hq]
          simp
        have := hx _ hm
        rw [hx125] at this
        cases this
      · omega
    have hlt : j < t.length := by omega
    obtain ⟨n1, n2⟩ := h hlt
    by_cases hjx : j = x.length
    · apply n1
      subst hjx
      simp [e]
    · have hjl : j < x.length := by omega
      have hin : t[j] ∈ x := by
        have : t[j] = x[j] := by simp [e, List.getElem_append_left hjl]
        rw [this]
        exact List.getElem_mem hjl
      rcases n2 with n2 | n2
      · rw [h5 _ hin] at n2; cases n2
      · omega
  · rw [ec] at h2
    cases h2
/-- Where one stands. -/
theorem num_some {x y : List UInt8} (h1 : 1 ≤ x.length) (h6 : x.length ≤ 6) (hx : ∀ c ∈ x, isHx c = true) : numF (92 :: 117 :: 123 :: (x ++ 125 :: y)) = some (hexN x, y) := by
  have hp : Lib.hasPrefix (92 :: 117 :: 123 :: (x ++ 125 :: y)) [92, 117, 123] = true := by simp [Lib.hasPrefix, List.isPrefixOf]
  have ht : Lib.trimPrefix (92 :: 117 :: 123 :: (x ++ 125 :: y)) [92, 117, 123] = x ++ 125 :: y := by unfold Lib.trimPrefix; rw [if_pos hp]; rfl
  have hn : (125 : UInt8) ∉ x := fun hm => by have := hx _ hm; rw [hx125] at this; cases this
  have hc : numC (92 :: 117 :: 123 :: (x ++ 125 :: y)) = (x, y, true) := by unfold numC; rw [ht]; exact cut_at 125 _ _ hn
  unfold numF
  rw [hc, if_pos ⟨hp, rfl, h6, h1, hx⟩]
theorem num_short {l : List UInt8} (h : l.length < 5 ∨ Lib.hasPrefix l [92, 117, 123] = false) : numF l = none := by
  unfold numF
  rw [if_neg]
  rintro ⟨h1, h2, _, h4, _⟩
  rcases h with h | h
  · have h5 := pre_len h1
    unfold numC at h2 h4
    rcases cut_cases (Lib.trimPrefix l [92, 117, 123]) 125 with ⟨x, y, e, _, ec⟩ | ⟨_, ec⟩
    · rw [ec] at h4
      have := congrArg List.length e
      simp at this h5 h4
      omega
    · rw [ec] at h2; cases h2
  · rw [h] at h1; cases h1
theorem pre3 {B : ByteArray} : ((B.extract 0 3).toList == [92, 117, 123]) = Lib.hasPrefix B.data.toList [92, 117, 123] := by
  rw [ByteArray.toList_eq, ext_head]
  unfold Lib.hasPrefix
  rw [Bool.eq_iff_iff, beq_iff_eq, List.isPrefixOf_iff_prefix, List.prefix_iff_eq_take]
  exact ⟨fun h => h.symm, fun h => h.symm⟩
set_option maxRecDepth 10000 in
set_option maxHeartbeats 1600000 in
theorem refBraced_any (B : ByteArray) (hB : B.size ≤ 4194400) (w : World) : Calls Tryz.prog 146 #[.string B] w fun e w' => e = .returned (.tuple #[.int .i64 (brcF B.data.toList).1, .int .i64 (brcF B.data.toList).2]) ∧ w' = w := by
  obtain ⟨R, hR⟩ : ∃ R, R = brcF B.data.toList := ⟨_, rfl⟩
  rw [← hR]
  have hbz := bsize B
  by_cases h5 : B.size < 5
  · have h5I : (B.size : Int) < 5 := by omega
    have d5 : decide ((B.size : Int) < 5) = true := decide_eq_true h5I
    have HV : Hid (R = (0, 0)) := hid0 (by rw [hR]; unfold brcF; rw [num_short (.inl (by omega))])
    clear hR
    go_enter Tryz.func146, Tryz.ntmps146
    go_wp2
    go_ret2
    exact ⟨by rw [HV.out]; rfl, rfl⟩
  · have h5I : ¬ (B.size : Int) < 5 := by omega
    have d5 : decide ((B.size : Int) < 5) = false := decide_eq_false h5I
    have h3I : (3 : Int) ≤ (B.size : Int) := by omega
    have hp := pre3 (B := B)
    cases hpp : Lib.hasPrefix B.data.toList [92, 117, 123] with
    | false =>
      rw [hpp] at hp
      have HV : Hid (R = (0, 0)) := hid0 (by rw [hR]; unfold brcF; rw [num_short (.inr hpp)])
      clear hR hpp
      go_enter Tryz.func146, Tryz.ntmps146
      go_wp2
      go_ret2
      exact ⟨by rw [HV.out]; rfl, rfl⟩
    | true =>
      rw [hpp] at hp
      obtain ⟨t, ht⟩ : ∃ t, B.data.toList = 92 :: 117 :: 123 :: t := by
        obtain ⟨t, ht⟩ := List.isPrefixOf_iff_prefix.1 hpp
        exact ⟨t, ht.symm⟩
      have htl : t.length + 3 = B.size := by rw [← hbz, ht]; simp
      have HAt : Hid (∀ j (h : j < t.length) (h2 : 3 + j < B.size), B[3 + j] = t[j]) := hid0 (fun j h h2 => by
        have e1 : B[3 + j] = B.data.toList[3 + j]'(by rw [hbz]; exact h2) := rfl
        rw [e1]
        have e2 : ∀ (l : List UInt8) (hl : l = 92 :: 117 :: 123 :: t) (hh : 3 + j < l.length), l[3 + j] = t[j] := fun l hl hh => by
          subst hl
          simp [show 3 + j = j + 1 + 1 + 1 by omega]
        exact e2 _ ht _)
      rw [ht] at hR
      have HR := hid0 hR
      clear hR hpp ht hbz
      go_enter Tryz.func146, Tryz.ntmps146
      go_wp2
      go_loopw [4, 5] (fun n i wr => ∃ i1 j : Nat, i1 ≤ B.size ∧ i1 ≤ 9 ∧ Hid (i1 = 3 + j) ∧ i = .int .i64 (i1 : Int) ∧ n = .int .i64 ((hexN (t.take j) : Nat) : Int) ∧ wr = w ∧ Hid (∀ c ∈ t.take j, isHx c = true)) (fun _ i _ => B.size - (intOf i).toNat)
      case atStart => exact ⟨3, 0, by omega, by omega, hid0 rfl, rfl, rfl, rfl, hid0 (fun c hc => by cases hc)⟩
      case round =>
        obtain ⟨i1, j, hi1, hi9, HJ, rfl, rfl, rfl, HX⟩ := hrel
        have hji := HJ.out
        have hj : j ≤ t.length := by omega
        have hj6 : j ≤ 6 := by omega
        by_cases hlt : j < t.length
        · have hlt2 : i1 < B.size := by omega
          have q1 : (i1 : Int) < (B.size : Int) := by omega
          have q2 : (0 : Int) ≤ (i1 : Int) := by omega
          have hat : B[i1] = t[j] := by
            have h := HAt.out j hlt (by omega)
            simpa [hji] using h
          have hxl : hexN (t.take j) < 16777216 := by
            have h1 := hexN_lt (t.take j) HX.out
            have h2 : 16 ^ (t.take j).length ≤ 16 ^ 6 := Nat.pow_le_pow_right (by omega) (by rw [List.length_take]; omega)
            omega
          have HSn : Hid (t.take (j + 1) = t.take j ++ [t[j]]) := hid0 (List.take_succ_eq_append_getElem hlt)
          have htd : t = t.take j ++ t[j] :: t.drop (j + 1) := by rw [← List.drop_eq_getElem_cons hlt, List.take_append_drop]
          by_cases h125 : t[j] = 125
          · have q3 : ((B[i1].toNat : Int) == 125) = true := by rw [hat, h125]; rfl
            by_cases hj0 : 0 < j
            · have q4 : (3 : Int) < (i1 : Int) := by omega
              have d4 : decide ((3 : Int) < (i1 : Int)) = true := decide_eq_true q4
              have HV : Hid (R = (((hexN (t.take j) : Nat) : Int), (i1 : Int) + 1)) := hid0 (by
                have hnum : numF (92 :: 117 :: 123 :: t) = some (hexN (t.take j), t.drop (j + 1)) := by
                  rw [htd, h125, num_some (by rw [List.length_take]; omega) (by rw [List.length_take]; omega) HX.out]
                  rw [h125] at htd
                  rw [← htd]
                rw [HR.out]
                unfold brcF
                rw [hnum]
                simp
                omega)
              clear HAt hat hji hj hj6 h125 htd
              generalize hexN (t.take j) = n at *
              go_wp2
              go_ret2
              exact ⟨by rw [HV.out]; rfl, rfl⟩
            · have q4 : ¬ (3 : Int) < (i1 : Int) := by omega
              have d4 : decide ((3 : Int) < (i1 : Int)) = false := decide_eq_false q4
              have hj00 : j = 0 := by omega
              have HV : Hid (R = (0, 0)) := hid0 (by
                rw [HR.out]
                unfold brcF
                have hnum : numF (92 :: 117 :: 123 :: t) = none := by
                  unfold numF
                  rw [if_neg]
                  rintro ⟨_, _, _, h4, _⟩
                  have hp2 : Lib.trimPrefix (92 :: 117 :: 123 :: t) [92, 117, 123] = t := by simp [Lib.trimPrefix, Lib.hasPrefix, List.isPrefixOf]
                  unfold numC at h4
                  subst hj00
                  rw [hp2, htd, h125] at h4
                  rw [List.take_zero, cut_at 125 [] _ (by simp)] at h4
                  simp at h4
                rw [hnum])
              have HH := hid0 (refHexa_any B[i1] wr)
              have hv : hexI B[i1] = -1 := by rw [hat, h125]; decide
              rw [hv] at HH
              clear HAt hat hji hj hj6 h125 htd hv
              generalize hexN (t.take j) = n at *
              go_wp2_with (go_at_call 168; refine HH.out.mono ?_; rintro e w1 ⟨rfl, hw1⟩; have hw1' := hw1.symm; subst hw1'; clear hw1)
              go_ret2
              exact ⟨by rw [HV.out]; rfl, rfl⟩
          · have q3 : ((B[i1].toNat : Int) == 125) = false := by
              rw [hat]
              have : t[j].toNat ≠ 125 := fun e => h125 (UInt8.toNat.inj e)
              exact beq_eq_false_iff_ne.2 (by omega)
            have HH := hid0 (refHexa_any B[i1] wr)
            cases hhx : isHx t[j] with
            | false =>
              have hv : hexI B[i1] = -1 := by rw [hat]; unfold hexI; rw [hhx]; rfl
              rw [hv] at HH
              have HV : Hid (R = (0, 0)) := hid0 (by
                rw [HR.out]
                unfold brcF
                rw [num_none hj HX.out (fun _ => ⟨h125, .inl hhx⟩)])
              clear HAt hat hji hj hj6 h125 htd hv hhx
              generalize hexN (t.take j) = n at *
              go_wp2_with (go_at_call 168; refine HH.out.mono ?_; rintro e w1 ⟨rfl, hw1⟩; have hw1' := hw1.symm; subst hw1'; clear hw1)
              go_ret2
              exact ⟨by rw [HV.out]; rfl, rfl⟩
            | true =>
              have hv : hexI B[i1] = (hxv t[j] : Int) := by rw [hat]; unfold hexI; rw [hhx]; rfl
              rw [hv] at HH
              have hxb := hxv_lt t[j] hhx
              have q5 : ¬ (hxv t[j] : Int) < 0 := by omega
              have d5' : decide ((hxv t[j] : Int) < 0) = false := decide_eq_false q5
              by_cases h6 : 6 ≤ j
              · have q6 : (8 : Int) < (i1 : Int) := by omega
                have d6 : decide ((8 : Int) < (i1 : Int)) = true := decide_eq_true q6
                have HV : Hid (R = (0, 0)) := hid0 (by
                  rw [HR.out]
                  unfold brcF
                  rw [num_none hj HX.out (fun _ => ⟨h125, .inr h6⟩)])
                clear HAt hat hji hj hj6 h125 htd hv hhx
                generalize hexN (t.take j) = n at *
                generalize hxv t[j] = x at *
                go_wp2_with (go_at_call 168; refine HH.out.mono ?_; rintro e w1 ⟨rfl, hw1⟩; have hw1' := hw1.symm; subst hw1'; clear hw1)
                go_ret2
                exact ⟨by rw [HV.out]; rfl, rfl⟩
              · have q6 : ¬ (8 : Int) < (i1 : Int) := by omega
                have hi8 : i1 ≤ 8 := by omega
                have d6 : decide ((8 : Int) < (i1 : Int)) = false := decide_eq_false q6
                have HN : Hid ((16 : Int) * ((hexN (t.take j) : Nat) : Int) + ((hxv t[j] : Nat) : Int) = ((hexN (t.take (j + 1)) : Nat) : Int)) := hid0 (by rw [HSn.out, hexN_snoc]; omega)
                have HX2 : Hid (∀ c ∈ t.take (j + 1), isHx c = true) := hid0 (fun c hc => by
                  rw [HSn.out] at hc
                  rcases List.mem_append.1 hc with h | h
                  · exact HX.out c h
                  · rw [List.mem_singleton] at h; rw [h]; exact hhx)
                clear HAt hat hji hj hj6 h125 htd hv hhx HSn HR
                generalize hexN (t.take j) = n at *
                generalize hxv t[j] = x at *
                go_wp2_with (go_at_call 168; refine HH.out.mono ?_; rintro e w1 ⟨rfl, hw1⟩; have hw1' := hw1.symm; subst hw1'; clear hw1)
                go_roundw
                case rel => exact ⟨i1 + 1, j + 1, by omega, by omega, hid0 (by have := HJ.out; omega), by go_num, by rw [HN.out], trivial, HX2⟩
                case measure => simp [intOf]; omega
        · have q1 : ¬ (i1 : Int) < (B.size : Int) := by omega
          have HV : Hid (R = (0, 0)) := hid0 (by
            rw [HR.out]
            unfold brcF
            rw [num_none hj HX.out (fun h => absurd h hlt)])
          generalize hexN (t.take j) = n at *
          go_wp2
          go_ret2
          exact ⟨by rw [HV.out]; rfl, rfl⟩
end Go.Proofs.YtlfeiadgahdgoaaGreatDoor
namespace Go.Proofs.YtlfeiadgahdgoaaGreatDoor
open Go.RowKit
theorem strCells_bytes (l : List UInt8) : Go.Lib.strCells ⟨l.toArray⟩ = cellsOf l := by simp [Go.Lib.strCells, cellsOf]
/-- What the reference answers. -/
def refVal (ps : List Int) : Value := if ps.all scalarP then .tuple #[.string ⟨(encAll ps).toArray⟩, .int .i64 0] else .tuple #[.string ⟨#[]⟩, .int .i64 1]
set_option maxRecDepth 10000 in
set_option maxHeartbeats 800000 in
theorem refEncode_any (ps : List Int) (a : Option Addr) (cap : Nat) (hl : ps.length ≤ 20000000) (w : World) (ha : PA w a ps) :
    Calls Tryz.prog 147 #[.slice a ps.length cap] w fun e w' => e = .returned (refVal ps) ∧ Below w.heap.size w w' := by
  obtain ⟨i0, hi, hz0, hz1, hz2⟩ := info_parts infoU8E
  have HA := hidE ha
  clear ha
  go_enter Tryz.func147, Tryz.ntmps147
  go_wp2
  go_loopw [4, 5] (fun v i wr => ∃ k : Nat, k ≤ ps.length ∧ i = .int .i64 (k : Int) ∧ OwnBE wr w.heap.size v (encAll (ps.take k)) ∧ (ps.all scalarP = (ps.drop k).all scalarP) ∧ Below w.heap.size w wr) (fun _ i _ => ps.length - (intOf i).toNat)
  case atStart => exact ⟨0, Nat.zero_le _, rfl, World.ownsRow_nil _ _ _ _, rfl, Below.refl _ _⟩
  case round =>
    obtain ⟨k, hk, rfl, hown, hall, hB⟩ := hrel
    have HO := hidE hown
    have HL := hidE hall
    have hs := hB.size
    clear hown hall
    by_cases hlt : k < ps.length
    · obtain ⟨b, off, rfl, hc⟩ := HA.out.at' k hlt
      have hbl := World.block_lt_of_cell? w _ hc
      have hck : wr.cell? ⟨b, off + k, none⟩ = some (.int .i64 ps[k]) := (hB.cell (p := ⟨b, off + k, none⟩) hbl).trans hc
      have HS := hidE (refScalar_any ps[k])
      have HT := hidE (all_step ps k hlt)
      have HN := hidE (encAll_snoc ps k hlt)
      have hlen := encAll_len (ps.take k)
      rw [List.length_take] at hlen
      have hki : (k : Int) < (ps.length : Int) := by omega
      clear hc
      cases hq : scalarP ps[k] with
      | false =>
        rw [hq] at HS HT
        have HV : Hid (refVal ps = .tuple #[.string ⟨#[]⟩, .int .i64 1]) := by show _ = _; rw [refVal, HL.out, HT.out]; rfl
        generalize ps[k] = q at *
        clear HL HT HN HO hq
        go_wp2_with (go_at_call 116; refine (HS.out _).mono ?_; rintro e w1 ⟨rfl, rfl⟩)
        go_ret2
        exact ⟨by rw [HV.out]; rfl, hB⟩
      | true =>
        rw [hq] at HS HT
        have HL2 : Hid (ps.all scalarP = (ps.drop (k + 1)).all scalarP) := by show _ = _; rw [HL.out, HT.out, Bool.true_and]
        have hq2 := hq
        simp only [scalarP, Bool.and_eq_true, Bool.or_eq_true, decide_eq_true_eq] at hq2
        obtain ⟨m, hm⟩ : ∃ m : Nat, ps[k] = (m : Int) := ⟨ps[k].toNat, by omega⟩
        rw [hm] at hck HS HN hq hq2
        rw [Int.toNat_natCast] at HN
        have hel := encL_len m
        have HOn := hidE (fun w' => refOne_any m w' (by omega))
        have hsz : (⟨(encL m).toArray⟩ : ByteArray).size = (encL m).length := by simp [ByteArray.size]
        clear HL HT hq hm
        go_wp2_with (first
          | (go_at_call 116; refine (HS.out _).mono ?_; rintro e w1 ⟨rfl, rfl⟩)
          | (go_at_call 117; refine (HOn.out _).mono ?_; rintro e w2 ⟨rfl, hb2⟩; have HO2 := hidE (HO.out.later hb2); have HB2 := hidE (hB.trans (hb2.mono hB.size)); have hs2 := hb2.size; clear hb2)
          | (at_builtin; refine Go.Lib.wpList_append_own_string _ rfl _ _ 48 9 rfl w.heap.size 5 i0 Tryz.underlying48 Tryz.underlying9 hi hz0 hz1 hz2 _ (encAll (ps.take k)).length (cellsOf (encAll (ps.take k))) rfl HO2.out ⟨(encL m).toArray⟩ rfl (by rw [hsz]; unfold maxLen; omega) (by rw [hsz]; omega) (by omega) ?_; intro v3 w3 hown3 hgrow3 _; have HO3 : Hid (OwnBE w3 w.heap.size v3 (encAll (ps.take (k + 1)))) := by { show OwnBE _ _ _ _; unfold OwnBE; rw [HN.out, List.length_append, cellsOf_append, ← strCells_bytes (encL m), ← hsz]; exact hown3 }; have HB3 : Hid (Below w.heap.size w w3) := HB2.out.grown hgrow3 (by omega) (fun k hk => (World.ownsRow.lt HO2.out k hk).1); clear hown3 hgrow3)
          | fail)
        go_roundw
        case rel => exact ⟨k + 1, by omega, by go_num, HO3.out, HL2.out, HB3.out⟩
        case measure => simp [intOf]; omega
    · have HV : Hid (refVal ps = .tuple #[.string ⟨(encAll ps).toArray⟩, .int .i64 0]) := by show _ = _; rw [refVal, HL.out, List.drop_of_length_le (by omega)]; rfl
      have hcv := toStrE HO.out
      rw [List.take_of_length_le (by omega)] at hcv
      have hki : ¬ (k : Int) < (ps.length : Int) := by omega
      go_wp2
      go_ret2
      exact ⟨by rw [HV.out]; rfl, hB⟩
end Go.Proofs.YtlfeiadgahdgoaaGreatDoor
namespace Go.Proofs.YtlfeiadgahdgoaaGreatDoor
open Go.RowKit Go.Shelf Go.Lib
/-- The bytes that an escape stands for, and how many it takes. -/
def escV (l : List UInt8) : List UInt8 × Nat := match escF l with
  | some x => if scalarP (x.1 : Int) = true then (encL x.1, l.length - x.2.length) else ([], 0)
  | none => ([], 0)
theorem escF_cons (b : UInt8) (r : List UInt8) : escF (92 :: b :: r) = if b = 92 then some (92, r) else if b = 35 then some (35, r) else if b = 115 then some (32, r) else numF (92 :: b :: r) := by
  unfold escF
  by_cases h1 : b = 92
  · subst h1; simp [Lib.hasPrefix, Lib.trimPrefix, List.isPrefixOf]
  · rw [if_neg (by simp [Lib.hasPrefix, List.isPrefixOf]; exact fun e => h1 e.symm), if_neg h1]
    by_cases h2 : b = 35
    · subst h2; simp [Lib.hasPrefix, Lib.trimPrefix, List.isPrefixOf]
    · rw [if_neg (by simp [Lib.hasPrefix, List.isPrefixOf]; exact fun e => h2 e.symm), if_neg h2]
      by_cases h3 : b = 115
      · subst h3; simp [Lib.hasPrefix, Lib.trimPrefix, List.isPrefixOf]
      · rw [if_neg (by simp [Lib.hasPrefix, List.isPrefixOf]; exact fun e => h3 e.symm), if_neg h3]
theorem escF_one : escF [92] = none := by decide
theorem pa_one (w : World) (n : Int) : PA (w.alloc (.cells #[.int .i64 n] 3)) (some ⟨w.heap.size, 0, none⟩) [n] := ⟨fun k hk => ⟨w.heap.size, 0, rfl, by
  have : k = 0 := by simpa using hk
  subst this
  exact cell_one_new w (.int .i64 n) 3 0 _ rfl⟩⟩
set_option maxRecDepth 10000 in
set_option maxHeartbeats 1600000 in
theorem refEscape_any (B : ByteArray) (hB : B.size ≤ 4194400) (t : List UInt8) (h0 : B.data.toList = 92 :: t) (w : World) : Calls Tryz.prog 113 #[.string B] w fun e w' => e = .returned (.tuple #[.string (strOf (escV B.data.toList).1), .int .i64 ((escV B.data.toList).2 : Nat)]) ∧ Below w.heap.size w w' := by
  have HBr := hid0 (refBraced_any B hB w)
  have hbz := bsize B
  obtain ⟨V, hV⟩ : ∃ V, V = escV B.data.toList := ⟨_, rfl⟩
  rw [← hV]
  have HB0 := hid0 (Below.refl w.heap.size w)
  cases t with
  | nil =>
    have hs : B.size = 1 := by rw [← hbz, h0]; rfl
    have h2I : ¬ (2 : Int) ≤ (B.size : Int) := by omega
    have HV : Hid (V = ([], 0)) := hid0 (by rw [hV, h0]; unfold escV; rw [escF_one])
    have hb2 : brcF B.data.toList = (0, 0) := by unfold brcF; rw [num_short (.inl (by omega))]
    rw [hb2] at HBr
    clear hV h0 hbz hs hb2
    go_enter Tryz.func113, Tryz.ntmps113
    go_wp2_with (go_at_call 146; refine HBr.out.mono ?_; rintro e w1 ⟨rfl, hw1⟩; have hw1' := hw1.symm; subst hw1'; clear hw1)
    go_ret2
    exact ⟨by rw [HV.out]; rfl, HB0.out⟩
  | cons b r =>
    have hs : 2 ≤ B.size := by rw [← hbz, h0]; simp
    have h2I : (2 : Int) ≤ (B.size : Int) := by omega
    have h1I : (1 : Int) < (B.size : Int) := by omega
    have hb1 : B[1] = b := by
      have e1 : B[1] = B.data.toList[1]'(by rw [hbz]; omega) := rfl
      rw [e1]
      simp [h0]
    have hlr : B.data.toList.length = r.length + 2 := by rw [h0]; simp
    rw [h0] at hV
    have hV2 : V = match escF (92 :: b :: r) with
        | some x => if scalarP (x.1 : Int) = true then (encL x.1, (92 :: b :: r).length - x.2.length) else ([], 0)
        | none => ([], 0) := hV
    rw [escF_cons] at hV2
    by_cases c1 : b = 92
    · rw [if_pos c1] at hV2
      have HV : Hid (V = ([92], 2)) := hid0 (by rw [hV2]; simp only; rw [if_pos (show scalarP ((92 : Nat) : Int) = true by decide), show encL 92 = [92] by decide]; congr 1; simp only [List.length_cons]; omega)
      have q1 : ((B[1].toNat : Int) == 92) = true := by rw [hb1, c1]; rfl
      clear hV hV2 h0 hbz HBr hb1 c1 hlr
      go_enter Tryz.func113, Tryz.ntmps113
      go_wp2
      go_ret2
      exact ⟨by rw [HV.out]; rfl, HB0.out⟩
    · rw [if_neg c1] at hV2
      have q1 : ((B[1].toNat : Int) == 92) = false := by
        rw [hb1]
        have : b.toNat ≠ 92 := fun e => c1 (UInt8.toNat.inj e)
        exact beq_eq_false_iff_ne.2 (by omega)
      by_cases c2 : b = 35
      · rw [if_pos c2] at hV2
        have HV : Hid (V = ([35], 2)) := hid0 (by rw [hV2]; simp only; rw [if_pos (show scalarP ((35 : Nat) : Int) = true by decide), show encL 35 = [35] by decide]; congr 1; simp only [List.length_cons]; omega)
        have q2 : ((B[1].toNat : Int) == 35) = true := by rw [hb1, c2]; rfl
        clear hV hV2 h0 hbz HBr hb1 c1 c2 hlr
        go_enter Tryz.func113, Tryz.ntmps113
        go_wp2
        go_ret2
        exact ⟨by rw [HV.out]; rfl, HB0.out⟩
      · rw [if_neg c2] at hV2
        have q2 : ((B[1].toNat : Int) == 35) = false := by
          rw [hb1]
          have : b.toNat ≠ 35 := fun e => c2 (UInt8.toNat.inj e)
          exact beq_eq_false_iff_ne.2 (by omega)
        by_cases c3 : b = 115
        · rw [if_pos c3] at hV2
          have HV : Hid (V = ([32], 2)) := hid0 (by rw [hV2]; simp only; rw [if_pos (show scalarP ((32 : Nat) : Int) = true by decide), show encL 32 = [32] by decide]; congr 1; simp only [List.length_cons]; omega)
          have q3 : ((B[1].toNat : Int) == 115) = true := by rw [hb1, c3]; rfl
          clear hV hV2 h0 hbz HBr hb1 c1 c2 c3 hlr
          go_enter Tryz.func113, Tryz.ntmps113
          go_wp2
          go_ret2
          exact ⟨by rw [HV.out]; rfl, HB0.out⟩
        · rw [if_neg c3] at hV2
          have q3 : ((B[1].toNat : Int) == 115) = false := by
            rw [hb1]
            have : b.toNat ≠ 115 := fun e => c3 (UInt8.toNat.inj e)
            exact beq_eq_false_iff_ne.2 (by omega)
          cases hn : numF (92 :: b :: r) with
          | none =>
            rw [hn] at hV2
            have hb2 : brcF B.data.toList = (0, 0) := by rw [h0]; unfold brcF; rw [hn]
            rw [hb2] at HBr
            have HV : Hid (V = ([], 0)) := hid0 hV2
            clear hV hV2 h0 hbz hb1 c1 c2 c3 hlr hn hb2
            go_enter Tryz.func113, Tryz.ntmps113
            go_wp2_with (go_at_call 146; refine HBr.out.mono ?_; rintro e w1 ⟨rfl, hw1⟩; have hw1' := hw1.symm; subst hw1'; clear hw1)
            go_ret2
            exact ⟨by rw [HV.out]; rfl, HB0.out⟩
          | some x =>
            obtain ⟨n, y⟩ := x
            rw [hn] at hV2
            simp only at hV2
            have hsh : y.length < (92 :: b :: r).length := by
              have : escF (92 :: b :: r) = some (n, y) := by rw [escF_cons, if_neg c1, if_neg c2, if_neg c3, hn]
              exact escF_short this
            obtain ⟨k, hk⟩ : ∃ k : Nat, k = (92 :: b :: r).length - y.length := ⟨_, rfl⟩
            have hb2 : brcF B.data.toList = ((n : Int), (k : Int)) := by rw [h0]; unfold brcF; rw [hn]; simp only; rw [hk]; congr 1; omega
            rw [hb2] at HBr
            rw [← hk] at hV2
            have hk0 : ((k : Int) == 0) = false := beq_eq_false_iff_ne.2 (by omega)
            have HEn : Hid (∀ W, PA W (some ⟨w.heap.size, 0, none⟩) [(n : Int)] → Calls Tryz.prog 147 #[.slice (some ⟨w.heap.size, 0, none⟩) 1 1] W fun e w' => e = .returned (refVal [(n : Int)]) ∧ Below W.heap.size W w') := hid0 (fun W h => refEncode_any [(n : Int)] _ 1 (by simp) W h)
            have HPa := hid0 (pa_one w (n : Int))
            have HBa : Hid (Below w.heap.size w (w.alloc (.cells #[.int .i64 (n : Int)] 3))) := hid0 ((Below.refl _ _).alloc (Nat.le_refl _) _)
            clear hV h0 hbz hb1 c1 c2 c3 hlr hn hb2 hk hsh
            cases hsc : scalarP (n : Int) with
            | true =>
              rw [hsc, if_pos rfl] at hV2
              have hrv : refVal [(n : Int)] = .tuple #[.string (strOf (encL n)), .int .i64 0] := by unfold refVal; simp [hsc, encAll, strOf]
              rw [hrv] at HEn
              obtain ⟨X, hX⟩ : ∃ X, X = strOf (encL n) := ⟨_, rfl⟩
              rw [← hX] at HEn
              have HV : Hid (strOf V.1 = X ∧ V.2 = k) := hid0 (by rw [hV2, hX]; exact ⟨rfl, rfl⟩)
              clear hV2 hsc hrv hX
              go_enter Tryz.func113, Tryz.ntmps113
              go_wp2_with (first
                | (go_at_call 146; refine HBr.out.mono ?_; rintro e w1 ⟨rfl, hw1⟩; have hw1' := hw1.symm; subst hw1'; clear hw1)
                | (go_at_call 147; refine (HEn.out _ HPa.out).mono ?_; rintro e w2 ⟨rfl, hb2⟩; have HB2 := hid0 (Below.later HBa.out hb2); clear hb2)
                | fail)
              go_ret2
              exact ⟨by rw [HV.out.1, HV.out.2]; rfl, HB2.out⟩
            | false =>
              rw [hsc, if_neg (by decide)] at hV2
              have hrv : refVal [(n : Int)] = .tuple #[.string ⟨#[]⟩, .int .i64 1] := by unfold refVal; simp [hsc]
              rw [hrv] at HEn
              have HV := hid0 hV2
              clear hV2 hsc hrv
              go_enter Tryz.func113, Tryz.ntmps113
              go_wp2_with (first
                | (go_at_call 146; refine HBr.out.mono ?_; rintro e w1 ⟨rfl, hw1⟩; have hw1' := hw1.symm; subst hw1'; clear hw1)
                | (go_at_call 147; refine (HEn.out _ HPa.out).mono ?_; rintro e w2 ⟨rfl, hb2⟩; have HB2 := hid0 (Below.later HBa.out hb2); clear hb2)
                | fail)
              go_ret2
              exact ⟨by rw [HV.out]; rfl, HB2.out⟩
end Go.Proofs.YtlfeiadgahdgoaaGreatDoor
