/-
  BrAW, BrYW, BrZW, ShelfH, BwHW, IterW, USplitW.
-/
import Derived.Test.YtlfeiadgahdgoaaGreatDoorMke
import Derived.Defers
import Derived.Recover
import Derived.Laws.Pointers
import Derived.Shelf.Spec.TrailingZeros
import Derived.Ground.Names7Prog
import Derived.Test.YtlfeiadgahdgoaaGreatDoorProg
import Derived.Test.YtlfeiadgahdgoaaGreatDoorMkd
import Derived.Test.YtlfeiadgahdgoaaGreatDoorMkc
import Derived.RangeFuncNested
import Derived.RangeFuncBound
import Derived.RangeFuncCalls
import Derived.RangeFuncLeaves
import Derived.RangeFuncBox
import Derived.Shelf.Abstract
import Derived.OwnWalkIn
import Derived.TacticsInMore
import Derived.LoopNIn
import Derived.LoopIn
import Derived.Lib.RuneCount
import Derived.Laws.RangeString
import Derived.Laws.RangeAny
import Derived.Maps.OwnIn
namespace Go.Proofs.YtlfeiadgahdgoaaGreatDoor
open Go.RowKit Go.Shelf Go.Lib
/-- What reading all lines leaves, or gives up with. -/
def AllA (A : Nat → Addr) (lo R : Nat) (w' : World) (o : PRes) (e : Ending) : Prop := match o with
  | .stop n i => Gives A i e ∧ ∃ v m, w'.heap[R]? = some (.cells #[.int .i64 (n : Int), v, m] 57 (0, 0))
  | .ok S => e = .returned (.tuple #[]) ∧ ∃ v T ln, secsO T = S ∧ RB w' lo R v T ln
theorem snocS {S : List Sec} {s : Sec} (h : S.getLast? = some s) : ∃ P, S = P ++ [s] ∧ S.dropLast = P := by
  have h1 : S ≠ [] := fun e => by rw [e] at h; cases h
  have h2 := List.dropLast_concat_getLast h1
  rw [List.getLast?_eq_some_getLast h1] at h
  injection h with h
  rw [h] at h2
  exact ⟨S.dropLast, h2.symm, rfl⟩
/-- What a line leaves keeps the limits. -/
theorem lineS_lim {S S' : List Sec} {t : List UInt8} (hl : S.length ≤ 500) (hn : nEd S ≤ 20000) (h : lineS S t = .go S') : S'.length ≤ 500 ∧ nEd S' ≤ 20000 := by
  unfold lineS at h
  split at h
  · injection h with h; subst h; exact ⟨hl, hn⟩
  · split at h
    · unfold headS at h
      split at h
      · split at h
        · cases h
        · split at h
          · split at h
            · cases h
            · injection h with h
              subst h
              rename_i hlt _
              rw [nEd_snoc]
              exact ⟨by simp; omega, by simpa using hn⟩
          · cases h
      · cases h
    · split at h
      · unfold parS at h
        split at h
        · split at h
          · cases h
          · split at h
            · cases h
            · rename_i s hs
              obtain ⟨P, e1, e2⟩ := snocS hs
              split at h
              · cases h
              · split at h
                · split at h
                  · injection h with h
                    subst h
                    rw [e2, nEd_snoc]
                    rw [e1, nEd_snoc] at hn
                    rw [e1] at hl
                    exact ⟨by simpa using hl, hn⟩
                  · cases h
                · cases h
        · cases h
      · have key : ∀ ad b, edS S ad b = .go S' → S'.length ≤ 500 ∧ nEd S' ≤ 20000 := fun ad b h => by
          unfold edS at h
          split at h
          · cases h
          · split at h
            · split at h
              · cases h
              · rename_i s hs
                obtain ⟨P, e1, e2⟩ := snocS hs
                split at h
                · injection h with h
                  rename_i hlt
                  subst h
                  rw [e2, nEd_snoc]
                  rw [e1, nEd_snoc] at hlt
                  rw [e1] at hl
                  exact ⟨by simpa using hl, by simp; omega⟩
                · cases h
            · cases h
        split at h
        · exact key _ _ h
        · split at h
          · exact key _ _ h
          · cases h
theorem trimSuf_le (s p : List UInt8) : (Lib.trimSuffix s p).length ≤ s.length := trimSuffix_le s p
theorem noC_le (l : List UInt8) : (noC l).length ≤ l.length := by
  have h := noC_pre l
  have h2 := congrArg List.length h
  rw [List.length_take] at h2
  omega
theorem cutN_le (l : List UInt8) : (cutN l).length ≤ l.length := by
  have h := (cut_le l [10]).1
  unfold cutN
  split
  · have := trimSuffix_le (Lib.cut l [10]).1 [13]
    omega
  · exact h
set_option maxRecDepth 10000 in
set_option maxHeartbeats 3200000 in
theorem takeAll_any (A : Nat → Addr) (l0 : List UInt8) (hl0 : l0.length ≤ 1048576) (w : World) (lo R ln : Nat) (v : Value) (S : List SecO) (hr : RB w lo R v S ln) (hlo : lo ≤ w.heap.size) (hl : S.length ≤ 500) (hne : nEd (secsO S) ≤ 20000) (hln : ln ≤ 1000)
    (HEnv : Hid (∀ W, Below R w W → Mx W ∧ Syn W ∧ SeqAt W ∧ Sents W A)) :
    Calls Tryz.prog 23 #[.pointer (some ⟨R, 0, none⟩), .string (strOf l0)] w fun e w' => AllA A lo R w' (parA (secsO S) ln l0) e ∧ Below R w w' := by
  have hRs := hr.size
  obtain ⟨O, hO⟩ : ∃ O, O = parA (secsO S) ln l0 := ⟨_, rfl⟩
  rw [← hO]
  have HO0 : Hid (O = if true = true then parA (secsO S) ln l0 else .ok (secsO S)) := hid0 (by rw [if_pos rfl]; exact hO)
  have HR0 := hid0 hr
  have hl1 : (secsO S).length ≤ 500 := by rw [secsO_length]; exact hl
  clear hr hO
  go_enter Tryz.func23, Tryz.ntmps23
  go_wp2
  go_loopw [4, 5] (fun s c wr => ∃ (r : List UInt8) (b : Bool) (T : List SecO) (u : Value) (n : Nat), s = .string (strOf r) ∧ c = .bool b ∧ n ≤ 1049600 ∧ (b = true → n + r.length ≤ 1049576) ∧ Hid (RB wr lo R u T n) ∧ Hid (T.length ≤ 500 ∧ nEd (secsO T) ≤ 20000) ∧ Hid (Below R w wr) ∧ Hid (O = if b = true then parA (secsO T) n r else .ok (secsO T))) (fun s c _ => (match c, s with | .bool true, .string x => x.size + 1 | _, _ => 0))
  case atStart => exact ⟨l0, true, S, v, ln, rfl, rfl, by omega, fun _ => by omega, HR0, hid0 ⟨hl, hne⟩, hid0 (Below.refl _ _), HO0⟩
  case round =>
    obtain ⟨r, b, T, u, n, rfl, rfl, hn1, hn2, HRB, HLim, HB, HOb⟩ := hrel
    cases b with
    | false =>
      have HQ : Hid (O = .ok (secsO T)) := hid0 (by rw [HOb.out, if_neg (by decide)])
      clear HOb hn2
      go_wp2
      go_end0
      exact ⟨by rw [HQ.out]; exact ⟨rfl, _, _, _, rfl, HRB.out⟩, HB.out⟩
    | true =>
      have hn3 := hn2 rfl
      obtain ⟨hM, hSy, hSq, hSe⟩ := HEnv.out wr HB.out
      obtain ⟨mx, hmx⟩ := hM
      have hrl : r.length ≤ 1049576 := by omega
      have hcut := scut_any (strOf r) ⟨#[10]⟩ (by rw [strOf_size]; omega) wr mx hmx
      rw [strOf_data] at hcut
      have hcutl := cut_le r [10]
      have HSu := hid0 (fun W => ssuf_any (strOf (Lib.cut r [10]).1) (by rw [strOf_size]; omega) W)
      rw [strOf_data] at HSu
      have hcn := cutN_le r
      have hnc := noC_le (cutN r)
      have HWc := hid0 (fun W => withoutComment_any (strOf (cutN r)) (by rw [strOf_size]; omega) W)
      rw [strOf_data] at HWc
      have HTr := hid0 (fun W => strim_any (strOf (noC (cutN r))) (by rw [strOf_size]; omega) W)
      rw [strOf_data] at HTr
      have hts := trimS_le (noC (cutN r)) [32, 9]
      have HTk : Hid (∀ W, RB W lo R u T (n + 1) → Below R w W → Calls Tryz.prog 39 #[.pointer (some ⟨R, 0, none⟩), .string (strOf (lineB (cutN r)))] W fun e w' => TkA A lo R (n + 1) w' (lineS (secsO T) (lineB (cutN r))) e ∧ Below R W w') := hid0 (fun W h1 h2 => by
        obtain ⟨e1, e2, e3, e4⟩ := HEnv.out W h2
        have h := take_any A (strOf (lineB (cutN r))) (by rw [strOf_size]; unfold lineB; omega) W lo R (n + 1) u T h1 (Nat.le_trans hlo h2.size) HLim.out.1 HLim.out.2 e1 e2 e3 e4
        rw [strOf_data] at h
        exact h)
      have hOs := HOb.out
      rw [if_pos rfl, parA_step] at hOs
      have e0 : Lib.trimS (noC (cutN r)) [32, 9] = lineB (cutN r) := rfl
      rw [e0] at HTr
      have hlim := fun S' => lineS_lim (S' := S') (t := lineB (cutN r)) (by rw [secsO_length]; exact HLim.out.1) HLim.out.2
      have HR1 : Hid (∀ W, RB W lo R u T n → RB (W.setCell ⟨R, 0, none⟩ (.int .i64 ((n : Int) + 1))) lo R u T (n + 1)) := hid0 (fun W h => by
        have h2 := h.line (n + 1)
        rw [show (((n + 1 : Nat)) : Int) = (n : Int) + 1 by omega] at h2
        exact h2)
      have hwl := HB.out.size
      cases hcb : (Lib.cut r [10]).2.2 with
      | true =>
        have HCu := hid0 hcut
        rw [hcb] at HCu
        have hcn2 : cutN r = Lib.trimSuffix (Lib.cut r [10]).1 [13] := by unfold cutN; rw [hcb]; rfl
        have HO2 := hid0 hOs
        rw [hcb] at HO2
        rw [← hcn2] at HSu
        cases hls : lineS (secsO T) (lineB (cutN r)) with
        | stop i =>
          have HK2 := HTk
          rw [hls] at HK2 HO2
          unfold TkA Gives at HK2
          simp only at HK2 HO2
          clear hcut HTk HOb hls hcb hOs HR0 hlim hmx hSy hSq hSe e0 HO0
          generalize strOf (lineB (cutN r)) = X at *
          generalize strOf (noC (cutN r)) = M at *
          generalize strOf (cutN r) = L at *
          generalize strOf (Lib.cut r [10]).1 = C1 at *
          generalize strOf (Lib.cut r [10]).2.1 = C2 at *
          generalize strOf r = RR at *
          go_wp2_with (first
            | (go_at_call 37; refine HCu.out.mono ?_; rintro e w1 ⟨rfl, q1, hw1⟩; have HB1 : Hid (Below wr.heap.size wr w1) := hid0 (by rw [hw1]; exact drewN_keeps (Below.refl _ _) q1); clear hw1; have HX1 := hid0 (HRB.out.later HB1.out); obtain ⟨x0, _, _, x3⟩ := HX1.out.cells; have x4 := x3 0; clear x3; have HY1 := hid0 (HR1.out _ HX1.out); have HZ1 := hid0 (HB.out.trans (lowB HB1.out (by omega))); have hs1 := HB1.out.size)
            | (go_at_call 38; refine (HSu.out _).mono ?_; rintro e w9 ⟨rfl, hw9⟩; have hw9' := hw9.symm; subst hw9'; clear hw9)
            | (go_at_call 41; refine (HWc.out _).mono ?_; rintro e w2 ⟨rfl, hw2⟩; have hw2' := hw2.symm; subst hw2'; clear hw2)
            | (go_at_call 40; refine (HTr.out _).mono ?_; rintro e w3 ⟨rfl, hb3⟩; have HX3 := hid0 (HY1.out.later hb3); have HZ3 := hid0 ((HZ1.out.setCell (p := ⟨R, 0, none⟩) (Nat.le_refl _) _).trans (lowB hb3 (by simp; omega))); clear hb3)
            | (go_at_call 39; refine (HK2.out _ HX3.out HZ3.out).mono ?_; rintro e w4 ⟨⟨rfl, h4⟩, hb4⟩; have HH := hid0 h4; have HB4 := hid0 (HZ3.out.trans hb4); clear h4 hb4)
            | fail)
          exact ⟨rfl, by rw [HO2.out]; exact ⟨rfl, HH.out⟩, HB4.out⟩
        | go S' =>
          have HK2 := HTk
          rw [hls] at HK2 HO2
          unfold TkA at HK2
          simp only at HK2 HO2
          have HLm := hid0 (hlim S' hls)
          have hsh := cut_short hcb
          clear hcut HTk HOb hls hcb hOs HR0 hlim hmx hSy hSq hSe e0 HO0
          generalize strOf (lineB (cutN r)) = X at *
          generalize strOf (noC (cutN r)) = M at *
          generalize strOf (cutN r) = L at *
          generalize strOf (Lib.cut r [10]).1 = C1 at *
          have hrs : (strOf r).size = r.length := strOf_size r
          generalize strOf r = RR at *
          go_wp2_with (first
            | (go_at_call 37; refine HCu.out.mono ?_; rintro e w1 ⟨rfl, q1, hw1⟩; have HB1 : Hid (Below wr.heap.size wr w1) := hid0 (by rw [hw1]; exact drewN_keeps (Below.refl _ _) q1); clear hw1; have HX1 := hid0 (HRB.out.later HB1.out); obtain ⟨x0, _, _, x3⟩ := HX1.out.cells; have x4 := x3 0; clear x3; have HY1 := hid0 (HR1.out _ HX1.out); have HZ1 := hid0 (HB.out.trans (lowB HB1.out (by omega))); have hs1 := HB1.out.size)
            | (go_at_call 38; refine (HSu.out _).mono ?_; rintro e w9 ⟨rfl, hw9⟩; have hw9' := hw9.symm; subst hw9'; clear hw9)
            | (go_at_call 41; refine (HWc.out _).mono ?_; rintro e w2 ⟨rfl, hw2⟩; have hw2' := hw2.symm; subst hw2'; clear hw2)
            | (go_at_call 40; refine (HTr.out _).mono ?_; rintro e w3 ⟨rfl, hb3⟩; have HX3 := hid0 (HY1.out.later hb3); have HZ3 := hid0 ((HZ1.out.setCell (p := ⟨R, 0, none⟩) (Nat.le_refl _) _).trans (lowB hb3 (by simp; omega))); clear hb3)
            | (go_at_call 39; refine (HK2.out _ HX3.out HZ3.out).mono ?_; rintro e w4 ⟨⟨rfl, h4⟩, hb4⟩; have HH := hid0 h4; have HB4 := hid0 (HZ3.out.trans hb4); clear h4 hb4)
            | fail)
          obtain ⟨u', T', hT', hRB'⟩ := HH.out
          go_roundw
          case rel => exact ⟨(Lib.cut r [10]).2.1, true, T', u', n + 1, rfl, rfl, by omega, fun _ => by omega, hid0 hRB', hid0 (by rw [hT', ← secsO_length, hT']; exact HLm.out), hid0 HB4.out, hid0 (by rw [hT']; exact HO2.out)⟩
          case measure => simp only [strOf_size]; omega
      | false =>
        have HCu := hid0 hcut
        rw [hcb] at HCu
        have hcn2 : cutN r = (Lib.cut r [10]).1 := by unfold cutN; rw [hcb]; rfl
        have HO2 := hid0 hOs
        rw [hcb] at HO2
        rw [← hcn2] at HCu
        clear HSu
        cases hls : lineS (secsO T) (lineB (cutN r)) with
        | stop i =>
          have HK2 := HTk
          rw [hls] at HK2 HO2
          unfold TkA Gives at HK2
          simp only at HK2 HO2
          clear hcut HTk HOb hls hcb hOs HR0 hlim hmx hSy hSq hSe e0 HO0
          generalize strOf (lineB (cutN r)) = X at *
          generalize strOf (noC (cutN r)) = M at *
          generalize strOf (cutN r) = L at *
          generalize strOf (Lib.cut r [10]).2.1 = C2 at *
          generalize strOf r = RR at *
          go_wp2_with (first
            | (go_at_call 37; refine HCu.out.mono ?_; rintro e w1 ⟨rfl, q1, hw1⟩; have HB1 : Hid (Below wr.heap.size wr w1) := hid0 (by rw [hw1]; exact drewN_keeps (Below.refl _ _) q1); clear hw1; have HX1 := hid0 (HRB.out.later HB1.out); obtain ⟨x0, _, _, x3⟩ := HX1.out.cells; have x4 := x3 0; clear x3; have HY1 := hid0 (HR1.out _ HX1.out); have HZ1 := hid0 (HB.out.trans (lowB HB1.out (by omega))); have hs1 := HB1.out.size)
            | (go_at_call 41; refine (HWc.out _).mono ?_; rintro e w2 ⟨rfl, hw2⟩; have hw2' := hw2.symm; subst hw2'; clear hw2)
            | (go_at_call 40; refine (HTr.out _).mono ?_; rintro e w3 ⟨rfl, hb3⟩; have HX3 := hid0 (HY1.out.later hb3); have HZ3 := hid0 ((HZ1.out.setCell (p := ⟨R, 0, none⟩) (Nat.le_refl _) _).trans (lowB hb3 (by simp; omega))); clear hb3)
            | (go_at_call 39; refine (HK2.out _ HX3.out HZ3.out).mono ?_; rintro e w4 ⟨⟨rfl, h4⟩, hb4⟩; have HH := hid0 h4; have HB4 := hid0 (HZ3.out.trans hb4); clear h4 hb4)
            | fail)
          exact ⟨rfl, by rw [HO2.out]; exact ⟨rfl, HH.out⟩, HB4.out⟩
        | go S' =>
          have HK2 := HTk
          rw [hls] at HK2 HO2
          unfold TkA at HK2
          simp only at HK2 HO2
          have HLm := hid0 (hlim S' hls)
          clear hcut HTk HOb hls hcb hOs HR0 hlim hmx hSy hSq hSe e0 HO0
          generalize strOf (lineB (cutN r)) = X at *
          generalize strOf (noC (cutN r)) = M at *
          generalize strOf (cutN r) = L at *
          have hrs : (strOf r).size = r.length := strOf_size r
          generalize strOf r = RR at *
          go_wp2_with (first
            | (go_at_call 37; refine HCu.out.mono ?_; rintro e w1 ⟨rfl, q1, hw1⟩; have HB1 : Hid (Below wr.heap.size wr w1) := hid0 (by rw [hw1]; exact drewN_keeps (Below.refl _ _) q1); clear hw1; have HX1 := hid0 (HRB.out.later HB1.out); obtain ⟨x0, _, _, x3⟩ := HX1.out.cells; have x4 := x3 0; clear x3; have HY1 := hid0 (HR1.out _ HX1.out); have HZ1 := hid0 (HB.out.trans (lowB HB1.out (by omega))); have hs1 := HB1.out.size)
            | (go_at_call 41; refine (HWc.out _).mono ?_; rintro e w2 ⟨rfl, hw2⟩; have hw2' := hw2.symm; subst hw2'; clear hw2)
            | (go_at_call 40; refine (HTr.out _).mono ?_; rintro e w3 ⟨rfl, hb3⟩; have HX3 := hid0 (HY1.out.later hb3); have HZ3 := hid0 ((HZ1.out.setCell (p := ⟨R, 0, none⟩) (Nat.le_refl _) _).trans (lowB hb3 (by simp; omega))); clear hb3)
            | (go_at_call 39; refine (HK2.out _ HX3.out HZ3.out).mono ?_; rintro e w4 ⟨⟨rfl, h4⟩, hb4⟩; have HH := hid0 h4; have HB4 := hid0 (HZ3.out.trans hb4); clear h4 hb4)
            | fail)
          obtain ⟨u', T', hT', hRB'⟩ := HH.out
          go_roundw
          case rel => exact ⟨(Lib.cut r [10]).2.1, false, T', u', n + 1, rfl, rfl, by omega, (fun h => by cases h), hid0 hRB', hid0 (by rw [hT', ← secsO_length, hT']; exact HLm.out), hid0 HB4.out, hid0 (by rw [hT']; exact HO2.out)⟩
          case measure => simp
end Go.Proofs.YtlfeiadgahdgoaaGreatDoor
namespace Go.Proofs.YtlfeiadgahdgoaaGreatDoor
open Go.RowKit Go.Shelf Go.Lib
set_option maxRecDepth 10000 in
theorem faultOf_any (x : Value) (ty : TypeId) (y : Value) (hx : x = .iface ty y) (w : World) : Calls Tryz.prog 22 #[faultV x] w fun e w' => e = .returned (.agg #[x]) ∧ Below w.heap.size w w' := by
  subst hx
  have hta : ∀ w, (Instr.typeAssert (.iface 59 (.agg #[.iface ty y])) 20 59 true).run Tryz.prog w = .ok (.tuple #[.agg #[.iface ty y], .bool true]) w := fun _ => by kernel_rfl
  unfold faultV
  go_enter Tryz.func22, Tryz.ntmps22
  go_wp2
  have h0 : ((w.alloc (.cells #[.iface ty y] 59)).alloc (.cells #[.iface ty y] 59)).cell? ⟨w.heap.size, 0, none⟩ = some (.iface ty y) := by
    rw [World.cell?_of_block (Below.heap_alloc _ _ w.heap.size (by simp))]
    exact cell_one_new _ _ _ 0 _ rfl
  refine bodyPost_ret (v := .agg #[.iface ty y]) (by simp [results, Tryz.results22, go_sem, h0]) rfl ⟨rfl, ?_⟩
  exact ((Below.refl _ _).alloc (Nat.le_refl _) _).alloc (by simp) _
set_option maxRecDepth 10000 in
theorem catch_idle (p q r s : Addr) (w : World) :
    CallsD Tryz.prog 21 #[.pointer (some p), .pointer (some q), .pointer (some r), .pointer (some s)] .returning w fun e u' w' => e = .returned (.tuple #[]) ∧ u' = .returning ∧ w' = w := by
  refine callsD_of_wpS Tryz.func21 rfl fun c₀ cs hu => ?_
  apply wpS_seq
  apply wpS_region
  simp [wpOpsS, go_sem, recoverD, hu, Tryz.ntmps21, Exit.thenS]
  refine wpS_of_wp ?_
  go_wp2
  cases c₀
  simp_all [bodyPostS, results, Tryz.results21]
/-- The named results and the reading, and that nothing below them has turned. -/
structure Nm (w W : World) (B : Nat) (vb vl ve : Value) (n : Int) (v m : Value) : Prop where
  b : W.heap[B]? = some (.cells #[vb] 24 (0, 0))
  l : W.heap[B + 1]? = some (.cells #[vl] 3 (0, 0))
  e : W.heap[B + 2]? = some (.cells #[ve] 27 (0, 0))
  r : W.heap[B + 3]? = some (.cells #[.int .i64 n, v, m] 57 (0, 0))
  bel : Below B w W
theorem Nm.later {w W W' : World} {B : Nat} {vb vl ve : Value} {n : Int} {v m : Value} (h : Nm w W B vb vl ve n v m) (hb : Below W.heap.size W W') : Nm w W' B vb vl ve n v m :=
  have k : ∀ {q o}, W.heap[q]? = some o → W'.heap[q]? = some o := fun {q} {_} h => (hb.block q (Array.getElem?_eq_some_iff.1 h).1).trans h
  ⟨k h.b, k h.l, k h.e, k h.r, h.bel.trans (lowB hb (by have := (Array.getElem?_eq_some_iff.1 h.b).1; omega))⟩
theorem Nm.cells {w W : World} {B : Nat} {vb vl ve : Value} {n : Int} {v m : Value} (h : Nm w W B vb vl ve n v m) : W.cell? ⟨B, 0, none⟩ = some vb ∧ W.cell? ⟨B + 1, 0, none⟩ = some vl ∧ W.cell? ⟨B + 2, 0, none⟩ = some ve ∧ W.cell? ⟨B + 3, 0, none⟩ = some (.int .i64 n) ∧ W.cell? ⟨B + 3, 1, none⟩ = some v ∧ W.frozen? ⟨B, 0, none⟩ = false ∧ W.frozen? ⟨B + 1, 0, none⟩ = false ∧ W.frozen? ⟨B + 2, 0, none⟩ = false :=
  ⟨by rw [cell_of_row _ _ _ _ _ _ h.b]; rfl, by rw [cell_of_row _ _ _ _ _ _ h.l]; rfl, by rw [cell_of_row _ _ _ _ _ _ h.e]; rfl, by rw [cell_of_row _ _ _ _ _ _ h.r]; rfl, by rw [cell_of_row _ _ _ _ _ _ h.r]; rfl, frozen_of_row _ _ _ _ _ h.b, frozen_of_row _ _ _ _ _ h.l, frozen_of_row _ _ _ _ _ h.e⟩
theorem Nm.setB {w W : World} {B : Nat} {vb vl ve : Value} {n : Int} {v m : Value} (h : Nm w W B vb vl ve n v m) (x : Value) : Nm w (W.setCell ⟨B, 0, none⟩ x) B x vl ve n v m :=
  ⟨heap_setCell_same _ B 0 _ _ _ h.b, (Below.heap_setCell _ _ _ (B + 1) (by simp)).trans h.l, (Below.heap_setCell _ _ _ (B + 2) (by simp)).trans h.e, (Below.heap_setCell _ _ _ (B + 3) (by simp)).trans h.r, h.bel.setCell (p := ⟨B, 0, none⟩) (Nat.le_refl _) _⟩
theorem Nm.setL {w W : World} {B : Nat} {vb vl ve : Value} {n : Int} {v m : Value} (h : Nm w W B vb vl ve n v m) (x : Value) : Nm w (W.setCell ⟨B + 1, 0, none⟩ x) B vb x ve n v m :=
  ⟨(Below.heap_setCell _ _ _ B (by simp)).trans h.b, heap_setCell_same _ (B + 1) 0 _ _ _ h.l, (Below.heap_setCell _ _ _ (B + 2) (by simp)).trans h.e, (Below.heap_setCell _ _ _ (B + 3) (by simp)).trans h.r, h.bel.setCell (p := ⟨B + 1, 0, none⟩) (by simp) _⟩
theorem Nm.setE {w W : World} {B : Nat} {vb vl ve : Value} {n : Int} {v m : Value} (h : Nm w W B vb vl ve n v m) (x : Value) : Nm w (W.setCell ⟨B + 2, 0, none⟩ x) B vb vl x n v m :=
  ⟨(Below.heap_setCell _ _ _ B (by simp)).trans h.b, (Below.heap_setCell _ _ _ (B + 1) (by simp)).trans h.l, heap_setCell_same _ (B + 2) 0 _ _ _ h.e, (Below.heap_setCell _ _ _ (B + 3) (by simp)).trans h.r, h.bel.setCell (p := ⟨B + 2, 0, none⟩) (by simp) _⟩
set_option maxRecDepth 10000 in
set_option maxHeartbeats 1600000 in
theorem catch_gave (w0 : World) (B : Nat) (n : Int) (vb vl ve : Value) (v m : Value) (ty : TypeId) (y : Value) (w : World) (hn : Nm w0 w B vb vl ve n v m) :
    CallsD Tryz.prog 21 #[.pointer (some ⟨B + 3, 0, none⟩), .pointer (some ⟨B, 0, none⟩), .pointer (some ⟨B + 1, 0, none⟩), .pointer (some ⟨B + 2, 0, none⟩)] (.panicking [{ v := faultV (.iface ty y), recovered := false }]) w fun e u' w' => e = .returned (.tuple #[]) ∧ u' = .panicking [{ v := faultV (.iface ty y), recovered := true }] ∧ Nm w0 w' B (.slice none 0 0) (.int .i64 n) (.iface ty y) n v m := by
  have HFa := hid0 (fun W => faultOf_any (.iface ty y) ty y rfl W)
  have hfd : ∀ W, (Instr.field 59 (.agg #[.iface ty y]) 0).run Tryz.prog W = .ok (.iface ty y) W := fun _ => by kernel_rfl
  have HN := hid0 (hn.later ((Below.refl w.heap.size w).drew))
  unfold faultV at *
  clear hn
  refine callsD_of_wpS Tryz.func21 rfl fun c₀ cs hu => ?_
  apply wpS_seq
  apply wpS_region
  simp [wpOpsS, go_sem, recoverD, hu, Tryz.ntmps21, Exit.thenS]
  refine wpS_of_wp ?_
  go_wp2
  simp only [Array.replicate_succ, Array.replicate_zero, List.push_toArray, List.setIfInBounds_toArray, List.set_cons_zero, List.set_cons_succ, List.append_toArray, List.cons_append, List.nil_append]
  refine wp_region_held_drew (S := (fun W => W.cell? ⟨B + 3, 0, none⟩ = some (.int .i64 n))) (by kernel_rfl) ?_ (fun hHeld => ?_)
  · exact HN.out.cells.2.2.2.1
  refine tkV (i := 0) (d := some 8) (v := ?_) rfl (by kernel_rfl) (by kernel_rfl) (by kernel_rfl) rfl (fun _ _ _ h => h) (by rfl) ?_ (by assumption) ?_
  rotate_left
  · (intro w hSw; (try dsimp only at hSw); (try simp only [List.getElem_toArray, List.getElem_cons_zero]); go_simp; try with_reducible rfl)
  simp only [Act.put, List.setIfInBounds_toArray, List.set_cons_zero, List.set_cons_succ]
  refine tkV (i := 1) (d := some 9) (v := ?_) rfl (by kernel_rfl) (by kernel_rfl) (by kernel_rfl) rfl (fun _ _ _ h => h) (by rfl) ?_ (by assumption) ?_
  rotate_left
  · (intro w hSw; (try dsimp only at hSw); (try simp only [List.getElem_toArray, List.getElem_cons_zero, List.getElem_cons_succ]); go_simp; try with_reducible rfl)
  simp only [Act.put, List.setIfInBounds_toArray, List.set_cons_zero, List.set_cons_succ]
  refine tkV (i := 2) (d := some 10) (v := ?_) rfl (by kernel_rfl) (by kernel_rfl) (by kernel_rfl) rfl (fun _ _ _ h => h) (by rfl) ?_ (by assumption) ?_
  rotate_left
  · (intro w hSw; (try dsimp only at hSw); (try simp only [List.getElem_toArray, List.getElem_cons_zero, List.getElem_cons_succ]); go_simp; try with_reducible rfl)
  simp only [Act.put, List.setIfInBounds_toArray, List.set_cons_zero, List.set_cons_succ]
  refine tkV (i := 3) (d := some 11) (v := ?_) rfl (by kernel_rfl) (by kernel_rfl) (by kernel_rfl) rfl (fun _ _ _ h => h) (by rfl) ?_ (by assumption) ?_
  rotate_left
  · (intro w hSw; (try dsimp only at hSw); (try simp only [List.getElem_toArray, List.getElem_cons_zero, List.getElem_cons_succ]); go_simp; try with_reducible rfl)
  simp only [Act.put, List.setIfInBounds_toArray, List.set_cons_zero, List.set_cons_succ]
  refine wpAnyH_ready (rs := [4]) (by kernel_rfl) (by simp) (AllReadyH.cons rfl (fun K hK => ?_) AllReadyH.nil)
  try simp only [List.getElem_toArray, List.getElem_cons_zero, List.getElem_cons_succ]
  go_simp
  go_split_ands
  refine (HFa.out _).mono ?_
  rintro e w5 ⟨rfl, hb5⟩
  have HN5 := hid0 (HN.out.later hb5)
  clear hb5 HN
  go_wp2_with fail
  refine hK.out _ _ ?_ (fun hHeld5 => ?_)
  · exact HN5.out.cells.2.2.2.1
  clear hK K hHeld
  try simp only [Act.put, List.setIfInBounds_toArray, List.set_cons_zero, List.set_cons_succ]
  refine tkV (i := 5) (d := some 13) (v := ?_) rfl (by kernel_rfl) (by kernel_rfl) (by kernel_rfl) rfl (fun _ _ _ h => h) (by rfl) ?_ (by assumption) ?_
  rotate_left
  · (intro w hSw; (try dsimp only at hSw); (try simp only [List.getElem_toArray, List.getElem_cons_zero, List.getElem_cons_succ]); go_simp; try with_reducible rfl)
  simp only [Act.put, List.setIfInBounds_toArray, List.set_cons_zero, List.set_cons_succ]
  obtain ⟨c0, c1, c2, c3, _, f0, f1, f2⟩ := HN5.out.cells
  refine wpAnyH_ready (rs := [6]) (by kernel_rfl) (by simp) (AllReadyH.cons rfl (fun K hK => ?_) AllReadyH.nil)
  try simp only [List.getElem_toArray, List.getElem_cons_zero, List.getElem_cons_succ]
  go_simp
  have HN6 := hid0 (HN5.out.setB (.slice none 0 0))
  refine hK.out _ _ ?_ (fun hHeld6 => ?_)
  · exact HN6.out.cells.2.2.2.1
  clear hK K hHeld5 c0 c1 c2 c3 f0 f1 f2
  try simp only [Act.put, List.setIfInBounds_toArray, List.set_cons_zero, List.set_cons_succ]
  generalize World.setCell _ _ _ = w6 at *
  obtain ⟨c0, c1, c2, c3, _, f0, f1, f2⟩ := HN6.out.cells
  refine wpAnyH_ready (rs := [7]) (by kernel_rfl) (by simp) (AllReadyH.cons rfl (fun K hK => ?_) AllReadyH.nil)
  try simp only [List.getElem_toArray, List.getElem_cons_zero, List.getElem_cons_succ]
  go_simp
  have HN7 := hid0 (HN6.out.setL (.int .i64 n))
  refine hK.out _ _ ?_ (fun hHeld7 => ?_)
  · exact HN7.out.cells.2.2.2.1
  clear hK K hHeld6 c0 c1 c2 c3 f0 f1 f2
  try simp only [Act.put, List.setIfInBounds_toArray, List.set_cons_zero, List.set_cons_succ]
  generalize World.setCell _ _ _ = w7 at *
  obtain ⟨c0, c1, c2, c3, _, f0, f1, f2⟩ := HN7.out.cells
  refine wpAnyH_ready (rs := [8]) (by kernel_rfl) (by simp) (AllReadyH.cons rfl (fun K hK => ?_) AllReadyH.nil)
  try simp only [List.getElem_toArray, List.getElem_cons_zero, List.getElem_cons_succ]
  go_simp
  have HN8 := hid0 (HN7.out.setE (.iface ty y))
  refine hK.out _ _ ?_ (fun hHeld8 => ?_)
  · exact HN8.out.cells.2.2.2.1
  clear hK K hHeld7 c0 c1 c2 c3 f0 f1 f2
  try simp only [Act.put, List.setIfInBounds_toArray, List.set_cons_zero, List.set_cons_succ]
  generalize World.setCell _ _ _ = w8 at *
  refine wpAnyH_done (by kernel_rfl) ?_ _
  have h8 := HN8.out
  change bodyPostS _ _ _ _ _ _ _ _ _
  cases c₀
  simp_all [bodyPostS, results, Tryz.results21]
end Go.Proofs.YtlfeiadgahdgoaaGreatDoor
namespace Go.Proofs.YtlfeiadgahdgoaaGreatDoor
open Go.RowKit Go.Shelf Go.Lib
/-- Sections of one's own, each list of edits in a row of its own. -/
structure SB (w : World) (lo : Nat) (v : Value) (S : List SecO) : Prop where
  sec : w.ownsRow lo 38 3 v S.length (cellsO S)
  ed : ∀ x ∈ S, OwnE w lo x.ev x.s.ed.length x.s.ed
  ne : ∀ x ∈ S, ∀ g, x.ev.ownBlock = some g → v.ownBlock ≠ some g
  pw : S.Pairwise fun x y => ∀ g, x.ev.ownBlock = some g → y.ev.ownBlock ≠ some g
theorem RB.sb {w : World} {lo R ln : Nat} {v : Value} {S : List SecO} (h : RB w lo R v S ln) : SB w lo v S := ⟨h.sec, h.ed, h.ne, h.pw⟩
theorem SB.keep {w w' : World} {lo : Nat} {v : Value} {S : List SecO} (h : SB w lo v S) (hb : ∀ k, lo ≤ k → k < w.heap.size → w'.heap[k]? = w.heap[k]?) : SB w' lo v S where
  sec := own_blk h.sec (fun k hk => hb k (World.ownsRow.lt h.sec k hk).1 (World.ownsRow.lt h.sec k hk).2)
  ed := fun x hx => own_blk (h.ed x hx) (fun k hk => hb k (World.ownsRow.lt (h.ed x hx) k hk).1 (World.ownsRow.lt (h.ed x hx) k hk).2)
  ne := h.ne
  pw := h.pw
theorem SB.lower {w : World} {lo lo' : Nat} {v : Value} {S : List SecO} (h : SB w lo v S) (hl : lo' ≤ lo) : SB w lo' v S := ⟨owns_lower h.sec hl, fun x hx => owns_lower (h.ed x hx) hl, h.ne, h.pw⟩
/-- What Parse answers. -/
def GoPar (A : Nat → Addr) (w w' : World) (o : PRes) (e : Ending) : Prop := match o with
  | .stop n i => e = .returned (.tuple #[.agg #[.slice none 0 0], .int .i64 (n : Int), .iface 216 (.pointer (some (A i)))])
  | .ok S => ∃ v T, secsO T = S ∧ SB w' w.heap.size v T ∧ e = .returned (.tuple #[.agg #[v], .int .i64 0, .nilIface])
theorem four_new (w : World) (o0 o1 o2 o3 : Obj) : ∀ W, W = (((w.alloc o0).alloc o1).alloc o2).alloc o3 → W.heap[w.heap.size]? = some o0 ∧ W.heap[w.heap.size + 1]? = some o1 ∧ W.heap[w.heap.size + 2]? = some o2 ∧ W.heap[w.heap.size + 3]? = some o3 ∧ W.heap.size = w.heap.size + 4 ∧ Below w.heap.size w W := by
  rintro W rfl
  have n0 := heap_alloc_new w o0
  have n1 := heap_alloc_new (w.alloc o0) o1
  have n2 := heap_alloc_new ((w.alloc o0).alloc o1) o2
  have n3 := heap_alloc_new (((w.alloc o0).alloc o1).alloc o2) o3
  simp only [World.size_alloc] at n1 n2 n3
  refine ⟨?_, ?_, ?_, n3, by simp only [World.size_alloc], ?_⟩
  · rw [Below.heap_alloc _ _ _ (by simp only [World.size_alloc]; omega), Below.heap_alloc _ _ _ (by simp only [World.size_alloc]; omega), Below.heap_alloc _ _ _ (by simp only [World.size_alloc]; omega)]; exact n0
  · rw [Below.heap_alloc _ _ _ (by simp only [World.size_alloc]; omega), Below.heap_alloc _ _ _ (by simp only [World.size_alloc]; omega)]; exact n1
  · rw [Below.heap_alloc _ _ _ (by simp only [World.size_alloc]; omega)]; exact n2
  · exact ((((Below.refl _ w).alloc (Nat.le_refl _) _).alloc (by simp only [World.size_alloc]; omega) _).alloc (by simp only [World.size_alloc]; omega) _).alloc (by simp only [World.size_alloc]; omega) _
set_option maxRecDepth 10000 in
set_option maxHeartbeats 1600000 in
theorem parse_any (A : Nat → Addr) (l : List UInt8) (hl : l.length ≤ 1048576) (w : World) (hm : Mx w) (hs : Syn w) (hQ : SeqAt w) (he : Sents w A) :
    Calls Tryz.prog 9 #[.string (strOf l)] w fun e w' => GoPar A w w' (prsL l) e ∧ Below w.heap.size w w' := by
  have hmf : ∀ (fn : Fn) (first cap : Array Value) (w : World), (Instr.makeFunc fn first cap).run Tryz.prog w = .ok (.func fn first cap) w := fun _ _ _ _ => rfl
  have hsI : ¬ (1048576 : Int) < ((strOf l).size : Int) := by rw [strOf_size]; omega
  obtain ⟨W, hW⟩ : ∃ W, W = (((w.alloc (.cells #[.slice none 0 0] 24)).alloc (.cells #[.int .i64 0] 3)).alloc (.cells #[.nilIface] 27)).alloc (.cells #[.int .i64 0, .slice none 0 0, .int .i64 0] 57) := ⟨_, rfl⟩
  obtain ⟨b0, b1, b2, b3, bs, bb⟩ := four_new w _ _ _ _ W hW
  have hrb : RB W (w.heap.size + 4) (w.heap.size + 3) (.slice none 0 0) [] 0 := ⟨by omega, b3, World.ownsRow_nil _ _ _ _, (fun x hx => by cases hx), (fun x hx => by cases hx), .nil⟩
  have HEn : Hid (∀ W', Below (w.heap.size + 3) W W' → Mx W' ∧ Syn W' ∧ SeqAt W' ∧ Sents W' A) := hid0 (fun W' h => by
    have h2 := bb.trans (lowB h (by omega : w.heap.size ≤ w.heap.size + 3))
    exact ⟨hm.below h2, hs.below h2, hQ.later h2, he.below h2⟩)
  have HTA := hid0 (takeAll_any A l hl W (w.heap.size + 4) (w.heap.size + 3) 0 _ [] hrb (by omega) (by simp) (by simp [nEd, secsO]) (by omega) HEn)
  have e1 : parA (secsO []) 0 l = prsL l := rfl
  rw [e1] at HTA
  have HN : Hid (∀ W', Below (w.heap.size + 3) W W' → ∀ (n : Int) v m, W'.heap[w.heap.size + 3]? = some (.cells #[.int .i64 n, v, m] 57 (0, 0)) → Nm w W' w.heap.size (.slice none 0 0) (.int .i64 0) .nilIface n v m) := hid0 (fun W' h n v m hr => ⟨(h.block _ (by omega)).trans b0, (h.block _ (by omega)).trans b1, (h.block _ (by omega)).trans b2, hr, bb.trans (lowB h (by omega))⟩)
  rw [hW] at HTA
  rw [hW] at HN
  clear hm hs hQ he HEn hrb e1 b0 b1 b2 b3 bs bb
  generalize prsL l = o at *
  cases o with
  | stop n i =>
    unfold AllA Gives at HTA
    unfold GoPar
    simp only at HTA ⊢
    go_enter_defers Tryz.func9, Tryz.ntmps9
    go_wp2_with (go_at_call 23; refine HTA.out.mono ?_; rintro e w1 ⟨⟨rfl, v, m, hr1⟩, hb1⟩; have HN1 := hid0 (HN.out w1 hb1 _ v m hr1); clear hr1 hb1)
    refine leaves_cons (f := 21) (args := #[.pointer (some ⟨w.heap.size + 3, 0, none⟩), .pointer (some ⟨w.heap.size, 0, none⟩), .pointer (some ⟨w.heap.size + 1, 0, none⟩), .pointer (some ⟨w.heap.size + 2, 0, none⟩)]) (by simp) (by simp [go_sem]) ?_
    refine (catch_gave w w.heap.size _ _ _ _ v m _ _ w1 HN1.out).mono ?_
    rintro e u' w'' ⟨rfl, rfl, hN⟩
    obtain ⟨k0, k1, k2, _⟩ := hN.cells
    have hb := hN.bel
    simp [Leaves, settle, results, Tryz.results9, go_sem, k0, k1, k2, hb]
  | ok S =>
    unfold AllA at HTA
    simp only at HTA
    go_enter_defers Tryz.func9, Tryz.ntmps9
    go_wp2_with (go_at_call 23; refine HTA.out.mono ?_; rintro e w1 ⟨⟨rfl, v, T, ln, hT, hR⟩, hb1⟩; have HN1 := hid0 (HN.out w1 hb1 _ v _ hR.row); have HRB := hid0 hR; have HT := hid0 hT; obtain ⟨av, cv, hv, _⟩ := hR.form; subst hv; obtain ⟨c0, c1, c2, c3, c4, f0, f1, f2⟩ := HN1.out.cells; clear hR hT hb1)
    refine leaves_cons (f := 21) (args := #[.pointer (some ⟨w.heap.size + 3, 0, none⟩), .pointer (some ⟨w.heap.size, 0, none⟩), .pointer (some ⟨w.heap.size + 1, 0, none⟩), .pointer (some ⟨w.heap.size + 2, 0, none⟩)]) (by simp) (by simp [go_sem]) ?_
    refine (catch_idle _ _ _ _ _).mono ?_
    rintro e u' w'' ⟨rfl, rfl, rfl⟩
    have hF := ((HN1.out.setB (.slice av T.length cv)).setL (.int .i64 0)).setE .nilIface
    have hSB : SB (((w1.setCell ⟨w.heap.size, 0, none⟩ (.slice av T.length cv)).setCell ⟨w.heap.size + 1, 0, none⟩ (.int .i64 0)).setCell ⟨w.heap.size + 2, 0, none⟩ .nilIface) w.heap.size (.slice av T.length cv) T :=
      (HRB.out.sb.keep (fun k h1 _ => (Below.heap_setCell _ _ _ k (by simp only; omega)).trans ((Below.heap_setCell _ _ _ k (by simp only; omega)).trans (Below.heap_setCell _ _ _ k (by simp only; omega))))).lower (by omega)
    obtain ⟨k0, k1, k2, _⟩ := hF.cells
    have hb := hF.bel
    clear hF c0 c1 c2 c3 c4 f0 f1 f2 HRB HN1
    change Leaves _ _ _ _ _ _ (((w1.setCell ⟨w.heap.size, 0, none⟩ (.slice av T.length cv)).setCell ⟨w.heap.size + 1, 0, none⟩ (.int .i64 0)).setCell ⟨w.heap.size + 2, 0, none⟩ .nilIface)
    generalize ((w1.setCell ⟨w.heap.size, 0, none⟩ (.slice av T.length cv)).setCell ⟨w.heap.size + 1, 0, none⟩ (.int .i64 0)).setCell ⟨w.heap.size + 2, 0, none⟩ .nilIface = W5 at *
    have hG : GoPar A w W5 (.ok S) (.returned (.tuple #[.agg #[.slice av T.length cv], .int .i64 0, .nilIface])) := ⟨_, T, HT.out, hSB, rfl⟩
    simp [Leaves, settle, results, Tryz.results9, go_sem, k0, k1, k2, hb, hG]
theorem three_set (w W : World) (n : Nat) (a b c x y z : Value) (t0 t1 t2 : TypeId) (k0 : W.heap[n]? = some (.cells #[a] t0 (0, 0))) (k1 : W.heap[n + 1]? = some (.cells #[b] t1 (0, 0))) (k2 : W.heap[n + 2]? = some (.cells #[c] t2 (0, 0))) (hB : Below n w W) :
    ∀ V, V = ((W.setCell ⟨n, 0, none⟩ x).setCell ⟨n + 1, 0, none⟩ y).setCell ⟨n + 1 + 1, 0, none⟩ z → V.cell? ⟨n, 0, none⟩ = some x ∧ V.cell? ⟨n + 1, 0, none⟩ = some y ∧ V.cell? ⟨n + 1 + 1, 0, none⟩ = some z ∧ Below n w V := by
  rintro V rfl
  have o : ∀ (W : World) (p : Addr) (v : Value) (i : Nat), ¬ i = p.block → (W.setCell p v).heap[i]? = W.heap[i]? := fun W p v i h => Below.heap_setCell W p v i h
  have a1 := heap_setCell_same W n 0 _ _ x k0
  have b1 : (W.setCell ⟨n, 0, none⟩ x).heap[n + 1]? = _ := (o _ _ _ _ (by simp)).trans k1
  have b2 := heap_setCell_same _ (n + 1) 0 _ _ y b1
  have c1 : ((W.setCell ⟨n, 0, none⟩ x).setCell ⟨n + 1, 0, none⟩ y).heap[n + 1 + 1]? = _ := (o _ _ _ _ (by simp)).trans ((o _ _ _ _ (by simp; omega)).trans k2)
  have c2 := heap_setCell_same _ (n + 1 + 1) 0 _ _ z c1
  refine ⟨?_, ?_, ?_, ?_⟩
  · rw [cell_of_row _ _ _ _ _ _ ((o _ _ _ _ (by simp; omega)).trans ((o _ _ _ _ (by simp)).trans a1))]; rfl
  · rw [cell_of_row _ _ _ _ _ _ ((o _ _ _ _ (by simp)).trans b2)]; rfl
  · rw [cell_of_row _ _ _ _ _ _ c2]; rfl
  · exact ((hB.setCell (p := ⟨n, 0, none⟩) (Nat.le_refl _) _).setCell (p := ⟨n + 1, 0, none⟩) (by simp) _).setCell (p := ⟨n + 1 + 1, 0, none⟩) (by simp only; omega) _
set_option maxRecDepth 10000 in
set_option maxHeartbeats 1600000 in
theorem parse_long (A : Nat → Addr) (t : ByteArray) (ht : 1048576 < t.size) (w : World) (he : w.cell? ⟨0, 0, none⟩ = some (.iface 216 (.pointer (some (A 2))))) :
    Calls Tryz.prog 9 #[.string t] w fun e w' => e = .returned (.tuple #[.agg #[.slice none 0 0], .int .i64 0, .iface 216 (.pointer (some (A 2)))]) ∧ Below w.heap.size w w' := by
  have hsI : (1048576 : Int) < (t.size : Int) := by omega
  have hg : 0 < w.heap.size := World.block_lt_of_cell? w _ he
  obtain ⟨W, hW⟩ : ∃ W, W = (((w.alloc (.cells #[.slice none 0 0] 24)).alloc (.cells #[.int .i64 0] 3)).alloc (.cells #[.nilIface] 27)) := ⟨_, rfl⟩
  obtain ⟨b0, b1, b2, bb⟩ : W.heap[w.heap.size]? = some (.cells #[.slice none 0 0] 24 (0, 0)) ∧ W.heap[w.heap.size + 1]? = some (.cells #[.int .i64 0] 3 (0, 0)) ∧ W.heap[w.heap.size + 2]? = some (.cells #[.nilIface] 27 (0, 0)) ∧ Below w.heap.size w W := by
    obtain ⟨q0, q1, q2, _, qs, qb⟩ := four_new w (.cells #[.slice none 0 0] 24) (.cells #[.int .i64 0] 3) (.cells #[.nilIface] 27) (.cells #[.nilIface] 27) _ rfl
    rw [← hW] at q0 q1 q2 qs qb
    have hs : W.heap.size = w.heap.size + 3 := by rw [hW]; simp
    refine ⟨?_, ?_, ?_, ?_⟩
    · rw [Below.heap_alloc W _ _ (by omega)] at q0; exact q0
    · rw [Below.heap_alloc W _ _ (by omega)] at q1; exact q1
    · rw [Below.heap_alloc W _ _ (by omega)] at q2; exact q2
    · rw [hW]; exact ((((Below.refl _ w).alloc (Nat.le_refl _) _).alloc (by simp only [World.size_alloc]; omega) _).alloc (by simp only [World.size_alloc]; omega) _)
  have c0 : W.cell? ⟨w.heap.size, 0, none⟩ = some (.slice none 0 0) := by rw [cell_of_row W _ _ _ _ _ b0]; rfl
  have c1 : W.cell? ⟨w.heap.size + 1, 0, none⟩ = some (.int .i64 0) := by rw [cell_of_row W _ _ _ _ _ b1]; rfl
  have c2 : W.cell? ⟨w.heap.size + 1 + 1, 0, none⟩ = some .nilIface := by rw [cell_of_row W _ _ _ _ _ b2]; rfl
  have f0 : W.frozen? ⟨w.heap.size, 0, none⟩ = false := frozen_of_row W _ _ _ _ b0
  have f1 : W.frozen? ⟨w.heap.size + 1, 0, none⟩ = false := frozen_of_row W _ _ _ _ b1
  have f2 : W.frozen? ⟨w.heap.size + 1 + 1, 0, none⟩ = false := frozen_of_row W _ _ _ _ b2
  have e2 : W.cell? ⟨0, 0, none⟩ = some (.iface 216 (.pointer (some (A 2)))) := (bb.cell (p := ⟨0, 0, none⟩) hg).trans he
  have HW := hid0 hW.symm
  have HT := hid0 (three_set w W w.heap.size _ _ _ (.slice none 0 0) (.int .i64 0) (.iface 216 (.pointer (some (A 2)))) _ _ _ b0 b1 b2 bb)
  clear hW b0 b1 b2 bb he
  go_enter_defers Tryz.func9, Tryz.ntmps9
  go_wp2
  rw [HW.out]
  go_region
  go_wp2
  obtain ⟨k0, k1, k2, kb⟩ := HT.out _ rfl
  clear HT c0 c1 c2 f0 f1 f2 e2 HW
  generalize ((W.setCell ⟨w.heap.size, 0, none⟩ (.slice none 0 0)).setCell ⟨w.heap.size + 1, 0, none⟩ (.int .i64 0)).setCell ⟨w.heap.size + 1 + 1, 0, none⟩ (.iface 216 (.pointer (some (A 2)))) = V at *
  have kd := kb.drew
  simp [bodyPostD, Leaves, results, Tryz.results9, go_sem, k0, k1, k2, kd]
end Go.Proofs.YtlfeiadgahdgoaaGreatDoor
namespace Go.Proofs
open Go.Shelf
def Tryz.lays727_ren : Go.Shelf.Ren := ⟨fun | 27 => 152 | 28 => 169 | 29 => 170 | n => n, fun | 25 => 156 | 3 => 3 | 27 => 171 | 22 => 150 | 4 => 4 | 53 => 194 | 0 => 0 | 5 => 5 | 54 => 195 | n => n, fun | 0 => 16 | 1 => 17 | n => n⟩
theorem Tryz.lays727 : Go.Proofs.Lays7.n27 Tryz.prog Tryz.lays727_ren := {
  mixed := by kernel_rfl
  f27 := Tryz.func152.trans (congrArg some (by kernel_rfl))
  f28 := Tryz.func169.trans (congrArg some (by kernel_rfl))
  f29 := Tryz.func170.trans (congrArg some (by kernel_rfl))
  t0 := Tryz.underlying0
  a0 := Tryz.isAgg0
  z0 := Tryz.sizeOf0
  v0 := Tryz.zeroValue0
  i0 := by kernel_rfl
  t3 := Tryz.underlying3
  a3 := Tryz.isAgg3
  z3 := Tryz.sizeOf3
  v3 := Tryz.zeroValue3
  i3 := by kernel_rfl
  t4 := Tryz.underlying4
  a4 := Tryz.isAgg4
  z4 := Tryz.sizeOf4
  v4 := Tryz.zeroValue4
  i4 := by kernel_rfl
  t5 := Tryz.underlying5
  a5 := Tryz.isAgg5
  z5 := Tryz.sizeOf5
  v5 := Tryz.zeroValue5
  i5 := by kernel_rfl
  t22 := Tryz.underlying150
  a22 := Tryz.isAgg150
  z22 := Tryz.sizeOf150
  v22 := Tryz.zeroValue150
  i22 := by kernel_rfl
  t25 := Tryz.underlying156
  a25 := Tryz.isAgg156
  z25 := Tryz.sizeOf156
  v25 := Tryz.zeroValue156
  i25 := by kernel_rfl
  t27 := Tryz.underlying171
  a27 := Tryz.isAgg171
  z27 := Tryz.sizeOf171
  v27 := Tryz.zeroValue171
  i27 := by kernel_rfl
  t53 := Tryz.underlying194
  a53 := Tryz.isAgg194
  z53 := Tryz.sizeOf194
  v53 := Tryz.zeroValue194
  i53 := by kernel_rfl
  t54 := Tryz.underlying195
  a54 := Tryz.isAgg195
  z54 := Tryz.sizeOf195
  g0 := by kernel_rfl
  g1 := by kernel_rfl }
end Go.Proofs
namespace Go.Proofs.YtlfeiadgahdgoaaGreatDoor
open Go.RowKit Go.Shelf Go.Lib
set_option maxRecDepth 10000 in
theorem tz16 (w : World) (hT : TabAt 17 Lib.deBruijn64tab w) : Calls Tryz.prog 152 #[.int .u64 16] w fun e w' => e = .returned (.int .i64 4) ∧ w' = w := by
  have h := Any7.bits_TrailingZeros Tryz.lays727 16 (by omega) w (fun _ => hT)
  exact h
set_option maxRecDepth 10000 in
set_option maxHeartbeats 400000 in
theorem pow16 (w : World) : Calls Tryz.prog 151 #[.int .i64 16] w fun e w' => e = .returned (.bool true) ∧ w' = w := by
  go_enter Tryz.func151, Tryz.ntmps151
  go_wp2
  go_ret
  exact ⟨rfl, rfl⟩
theorem conv2 (w : World) (C : Array Value) (t : TypeId) (x y : UInt8) (h1 : C[63]? = some (.int .u8 (x.toNat : Int))) (h2 : C[64]? = some (.int .u8 (y.toNat : Int))) :
    (convert 48 9 (.slice (some ⟨w.heap.size, 63, none⟩) 2 2)).run Tryz.prog (w.alloc (.cells C t)) = .ok (.string ⟨#[x, y]⟩) (w.alloc (.cells C t)) := by
  refine run_convert_bytes_back (P := Tryz.prog) (w.alloc (.cells C t)) 48 9 5 ⟨w.heap.size, 63, none⟩ 2 [x, y] Tryz.underlying48 Tryz.underlying5 Tryz.underlying9 (fun j hj => ?_)
  have hj2 : j = 0 ∨ j = 1 := by simp at hj; omega
  rw [Addr.add_lit, cell_of_row _ _ _ _ _ _ (heap_alloc_new w _)]
  rcases hj2 with rfl | rfl
  · exact h1
  · exact h2
theorem conv1 (w : World) (C : Array Value) (t : TypeId) (x : UInt8) (h1 : C[64]? = some (.int .u8 (x.toNat : Int))) :
    (convert 48 9 (.slice (some ⟨w.heap.size, 64, none⟩) 1 1)).run Tryz.prog (w.alloc (.cells C t)) = .ok (.string ⟨#[x]⟩) (w.alloc (.cells C t)) := by
  refine run_convert_bytes_back (P := Tryz.prog) (w.alloc (.cells C t)) 48 9 5 ⟨w.heap.size, 64, none⟩ 1 [x] Tryz.underlying48 Tryz.underlying5 Tryz.underlying9 (fun j hj => ?_)
  have hj2 : j = 0 := by simp at hj; omega
  rw [Addr.add_lit, cell_of_row _ _ _ _ _ _ (heap_alloc_new w _)]
  subst hj2
  exact h1
/-- The table that TrailingZeros reads. -/
abbrev DT (w : World) : Prop := TabAt 17 Lib.deBruijn64tab w
theorem dt_later {w w' : World} (h : DT w) (hb : Below w.heap.size w w') : DT w' := fun j hj => (hb.cell (p := ⟨17, j, none⟩) (World.block_lt_of_cell? w _ (h j hj))).trans (h j hj)
/-- What formatBits answers. -/
def Fmt (n : Nat) (w : World) : Prop := Calls Tryz.prog 121 #[.slice none 0 0, .int .u64 (n : Int), .int .i64 16, .bool false, .bool false] w fun e w' => e = .returned (.tuple #[.slice none 0 0, .string ⟨(hexL n).toArray⟩]) ∧ Below w.heap.size w w'
set_option maxRecDepth 10000 in
set_option maxHeartbeats 800000 in
theorem fmt_0 (w : World) (hT : DT w) : Fmt 0 w := by
  unfold Fmt
  have HT := hid0 (fun W (hb : Below w.heap.size w W) => tz16 W (dt_later hT hb))
  have HB := hid0 (fun o : Obj => (Below.refl w.heap.size w).alloc (Nat.le_refl _) o)
  clear hT
  go_enter Tryz.func121, Tryz.ntmps121
  go_wp2_with (first
    | (go_at_call 151; refine (pow16 _).mono ?_; rintro e w1 ⟨rfl, rfl⟩)
    | (go_at_call 152; refine (HT.out _ (HB.out _)).mono ?_; rintro e w1 ⟨rfl, rfl⟩)
    | fail)
  refine wp_loop_rounds 1 ?_
  rw [rounds_succ]
  go_wp2
  rw [conv1 w _ _ 48]
  rotate_left
  · kernel_rfl
  go_wp2
  go_ret2
  exact ⟨rfl, HB.out _⟩
set_option maxRecDepth 10000 in
set_option maxHeartbeats 800000 in
theorem fmt_1 (w : World) (hT : DT w) : Fmt 1 w := by
  unfold Fmt
  have HT := hid0 (fun W (hb : Below w.heap.size w W) => tz16 W (dt_later hT hb))
  have HB := hid0 (fun o : Obj => (Below.refl w.heap.size w).alloc (Nat.le_refl _) o)
  clear hT
  go_enter Tryz.func121, Tryz.ntmps121
  go_wp2_with (first
    | (go_at_call 151; refine (pow16 _).mono ?_; rintro e w1 ⟨rfl, rfl⟩)
    | (go_at_call 152; refine (HT.out _ (HB.out _)).mono ?_; rintro e w1 ⟨rfl, rfl⟩)
    | fail)
  refine wp_loop_rounds 1 ?_
  rw [rounds_succ]
  go_wp2
  rw [conv1 w _ _ 49]
  rotate_left
  · kernel_rfl
  go_wp2
  go_ret2
  exact ⟨rfl, HB.out _⟩
set_option maxRecDepth 10000 in
set_option maxHeartbeats 800000 in
theorem fmt_2 (w : World) (hT : DT w) : Fmt 2 w := by
  unfold Fmt
  have HT := hid0 (fun W (hb : Below w.heap.size w W) => tz16 W (dt_later hT hb))
  have HB := hid0 (fun o : Obj => (Below.refl w.heap.size w).alloc (Nat.le_refl _) o)
  clear hT
  go_enter Tryz.func121, Tryz.ntmps121
  go_wp2_with (first
    | (go_at_call 151; refine (pow16 _).mono ?_; rintro e w1 ⟨rfl, rfl⟩)
    | (go_at_call 152; refine (HT.out _ (HB.out _)).mono ?_; rintro e w1 ⟨rfl, rfl⟩)
    | fail)
  refine wp_loop_rounds 1 ?_
  rw [rounds_succ]
  go_wp2
  rw [conv1 w _ _ 50]
  rotate_left
  · kernel_rfl
  go_wp2
  go_ret2
  exact ⟨rfl, HB.out _⟩
set_option maxRecDepth 10000 in
set_option maxHeartbeats 800000 in
theorem fmt_3 (w : World) (hT : DT w) : Fmt 3 w := by
  unfold Fmt
  have HT := hid0 (fun W (hb : Below w.heap.size w W) => tz16 W (dt_later hT hb))
  have HB := hid0 (fun o : Obj => (Below.refl w.heap.size w).alloc (Nat.le_refl _) o)
  clear hT
  go_enter Tryz.func121, Tryz.ntmps121
  go_wp2_with (first
    | (go_at_call 151; refine (pow16 _).mono ?_; rintro e w1 ⟨rfl, rfl⟩)
    | (go_at_call 152; refine (HT.out _ (HB.out _)).mono ?_; rintro e w1 ⟨rfl, rfl⟩)
    | fail)
  refine wp_loop_rounds 1 ?_
  rw [rounds_succ]
  go_wp2
  rw [conv1 w _ _ 51]
  rotate_left
  · kernel_rfl
  go_wp2
  go_ret2
  exact ⟨rfl, HB.out _⟩
set_option maxRecDepth 10000 in
set_option maxHeartbeats 800000 in
theorem fmt_4 (w : World) (hT : DT w) : Fmt 4 w := by
  unfold Fmt
  have HT := hid0 (fun W (hb : Below w.heap.size w W) => tz16 W (dt_later hT hb))
  have HB := hid0 (fun o : Obj => (Below.refl w.heap.size w).alloc (Nat.le_refl _) o)
  clear hT
  go_enter Tryz.func121, Tryz.ntmps121
  go_wp2_with (first
    | (go_at_call 151; refine (pow16 _).mono ?_; rintro e w1 ⟨rfl, rfl⟩)
    | (go_at_call 152; refine (HT.out _ (HB.out _)).mono ?_; rintro e w1 ⟨rfl, rfl⟩)
    | fail)
  refine wp_loop_rounds 1 ?_
  rw [rounds_succ]
  go_wp2
  rw [conv1 w _ _ 52]
  rotate_left
  · kernel_rfl
  go_wp2
  go_ret2
  exact ⟨rfl, HB.out _⟩
set_option maxRecDepth 10000 in
set_option maxHeartbeats 800000 in
theorem fmt_5 (w : World) (hT : DT w) : Fmt 5 w := by
  unfold Fmt
  have HT := hid0 (fun W (hb : Below w.heap.size w W) => tz16 W (dt_later hT hb))
  have HB := hid0 (fun o : Obj => (Below.refl w.heap.size w).alloc (Nat.le_refl _) o)
  clear hT
  go_enter Tryz.func121, Tryz.ntmps121
  go_wp2_with (first
    | (go_at_call 151; refine (pow16 _).mono ?_; rintro e w1 ⟨rfl, rfl⟩)
    | (go_at_call 152; refine (HT.out _ (HB.out _)).mono ?_; rintro e w1 ⟨rfl, rfl⟩)
    | fail)
  refine wp_loop_rounds 1 ?_
  rw [rounds_succ]
  go_wp2
  rw [conv1 w _ _ 53]
  rotate_left
  · kernel_rfl
  go_wp2
  go_ret2
  exact ⟨rfl, HB.out _⟩
set_option maxRecDepth 10000 in
set_option maxHeartbeats 800000 in
theorem fmt_6 (w : World) (hT : DT w) : Fmt 6 w := by
  unfold Fmt
  have HT := hid0 (fun W (hb : Below w.heap.size w W) => tz16 W (dt_later hT hb))
  have HB := hid0 (fun o : Obj => (Below.refl w.heap.size w).alloc (Nat.le_refl _) o)
  clear hT
  go_enter Tryz.func121, Tryz.ntmps121
  go_wp2_with (first
    | (go_at_call 151; refine (pow16 _).mono ?_; rintro e w1 ⟨rfl, rfl⟩)
    | (go_at_call 152; refine (HT.out _ (HB.out _)).mono ?_; rintro e w1 ⟨rfl, rfl⟩)
    | fail)
  refine wp_loop_rounds 1 ?_
  rw [rounds_succ]
  go_wp2
  rw [conv1 w _ _ 54]
  rotate_left
  · kernel_rfl
  go_wp2
  go_ret2
  exact ⟨rfl, HB.out _⟩
set_option maxRecDepth 10000 in
set_option maxHeartbeats 800000 in
theorem fmt_7 (w : World) (hT : DT w) : Fmt 7 w := by
  unfold Fmt
  have HT := hid0 (fun W (hb : Below w.heap.size w W) => tz16 W (dt_later hT hb))
  have HB := hid0 (fun o : Obj => (Below.refl w.heap.size w).alloc (Nat.le_refl _) o)
  clear hT
  go_enter Tryz.func121, Tryz.ntmps121
  go_wp2_with (first
    | (go_at_call 151; refine (pow16 _).mono ?_; rintro e w1 ⟨rfl, rfl⟩)
    | (go_at_call 152; refine (HT.out _ (HB.out _)).mono ?_; rintro e w1 ⟨rfl, rfl⟩)
    | fail)
  refine wp_loop_rounds 1 ?_
  rw [rounds_succ]
  go_wp2
  rw [conv1 w _ _ 55]
  rotate_left
  · kernel_rfl
  go_wp2
  go_ret2
  exact ⟨rfl, HB.out _⟩
set_option maxRecDepth 10000 in
set_option maxHeartbeats 800000 in
theorem fmt_8 (w : World) (hT : DT w) : Fmt 8 w := by
  unfold Fmt
  have HT := hid0 (fun W (hb : Below w.heap.size w W) => tz16 W (dt_later hT hb))
  have HB := hid0 (fun o : Obj => (Below.refl w.heap.size w).alloc (Nat.le_refl _) o)
  clear hT
  go_enter Tryz.func121, Tryz.ntmps121
  go_wp2_with (first
    | (go_at_call 151; refine (pow16 _).mono ?_; rintro e w1 ⟨rfl, rfl⟩)
    | (go_at_call 152; refine (HT.out _ (HB.out _)).mono ?_; rintro e w1 ⟨rfl, rfl⟩)
    | fail)
  refine wp_loop_rounds 1 ?_
  rw [rounds_succ]
  go_wp2
  rw [conv1 w _ _ 56]
  rotate_left
  · kernel_rfl
  go_wp2
  go_ret2
  exact ⟨rfl, HB.out _⟩
set_option maxRecDepth 10000 in
set_option maxHeartbeats 800000 in
theorem fmt_9 (w : World) (hT : DT w) : Fmt 9 w := by
  unfold Fmt
  have HT := hid0 (fun W (hb : Below w.heap.size w W) => tz16 W (dt_later hT hb))
  have HB := hid0 (fun o : Obj => (Below.refl w.heap.size w).alloc (Nat.le_refl _) o)
  clear hT
  go_enter Tryz.func121, Tryz.ntmps121
  go_wp2_with (first
    | (go_at_call 151; refine (pow16 _).mono ?_; rintro e w1 ⟨rfl, rfl⟩)
    | (go_at_call 152; refine (HT.out _ (HB.out _)).mono ?_; rintro e w1 ⟨rfl, rfl⟩)
    | fail)
  refine wp_loop_rounds 1 ?_
  rw [rounds_succ]
  go_wp2
  rw [conv1 w _ _ 57]
  rotate_left
  · kernel_rfl
  go_wp2
  go_ret2
  exact ⟨rfl, HB.out _⟩
set_option maxRecDepth 10000 in
set_option maxHeartbeats 800000 in
theorem fmt_10 (w : World) (hT : DT w) : Fmt 10 w := by
  unfold Fmt
  have HT := hid0 (fun W (hb : Below w.heap.size w W) => tz16 W (dt_later hT hb))
  have HB := hid0 (fun o : Obj => (Below.refl w.heap.size w).alloc (Nat.le_refl _) o)
  clear hT
  go_enter Tryz.func121, Tryz.ntmps121
  go_wp2_with (first
    | (go_at_call 151; refine (pow16 _).mono ?_; rintro e w1 ⟨rfl, rfl⟩)
    | (go_at_call 152; refine (HT.out _ (HB.out _)).mono ?_; rintro e w1 ⟨rfl, rfl⟩)
    | fail)
  refine wp_loop_rounds 1 ?_
  rw [rounds_succ]
  go_wp2
  rw [conv1 w _ _ 97]
  rotate_left
  · kernel_rfl
  go_wp2
  go_ret2
  exact ⟨rfl, HB.out _⟩
set_option maxRecDepth 10000 in
set_option maxHeartbeats 800000 in
theorem fmt_11 (w : World) (hT : DT w) : Fmt 11 w := by
  unfold Fmt
  have HT := hid0 (fun W (hb : Below w.heap.size w W) => tz16 W (dt_later hT hb))
  have HB := hid0 (fun o : Obj => (Below.refl w.heap.size w).alloc (Nat.le_refl _) o)
  clear hT
  go_enter Tryz.func121, Tryz.ntmps121
  go_wp2_with (first
    | (go_at_call 151; refine (pow16 _).mono ?_; rintro e w1 ⟨rfl, rfl⟩)
    | (go_at_call 152; refine (HT.out _ (HB.out _)).mono ?_; rintro e w1 ⟨rfl, rfl⟩)
    | fail)
  refine wp_loop_rounds 1 ?_
  rw [rounds_succ]
  go_wp2
  rw [conv1 w _ _ 98]
  rotate_left
  · kernel_rfl
  go_wp2
  go_ret2
  exact ⟨rfl, HB.out _⟩
set_option maxRecDepth 10000 in
set_option maxHeartbeats 800000 in
theorem fmt_12 (w : World) (hT : DT w) : Fmt 12 w := by
  unfold Fmt
  have HT := hid0 (fun W (hb : Below w.heap.size w W) => tz16 W (dt_later hT hb))
  have HB := hid0 (fun o : Obj => (Below.refl w.heap.size w).alloc (Nat.le_refl _) o)
  clear hT
  go_enter Tryz.func121, Tryz.ntmps121
  go_wp2_with (first
    | (go_at_call 151; refine (pow16 _).mono ?_; rintro e w1 ⟨rfl, rfl⟩)
    | (go_at_call 152; refine (HT.out _ (HB.out _)).mono ?_; rintro e w1 ⟨rfl, rfl⟩)
    | fail)
  refine wp_loop_rounds 1 ?_
  rw [rounds_succ]
  go_wp2
  rw [conv1 w _ _ 99]
  rotate_left
  · kernel_rfl
  go_wp2
  go_ret2
  exact ⟨rfl, HB.out _⟩
set_option maxRecDepth 10000 in
set_option maxHeartbeats 800000 in
theorem fmt_13 (w : World) (hT : DT w) : Fmt 13 w := by
  unfold Fmt
  have HT := hid0 (fun W (hb : Below w.heap.size w W) => tz16 W (dt_later hT hb))
  have HB := hid0 (fun o : Obj => (Below.refl w.heap.size w).alloc (Nat.le_refl _) o)
  clear hT
  go_enter Tryz.func121, Tryz.ntmps121
  go_wp2_with (first
    | (go_at_call 151; refine (pow16 _).mono ?_; rintro e w1 ⟨rfl, rfl⟩)
    | (go_at_call 152; refine (HT.out _ (HB.out _)).mono ?_; rintro e w1 ⟨rfl, rfl⟩)
    | fail)
  refine wp_loop_rounds 1 ?_
  rw [rounds_succ]
  go_wp2
  rw [conv1 w _ _ 100]
  rotate_left
  · kernel_rfl
  go_wp2
  go_ret2
  exact ⟨rfl, HB.out _⟩
set_option maxRecDepth 10000 in
set_option maxHeartbeats 800000 in
theorem fmt_14 (w : World) (hT : DT w) : Fmt 14 w := by
  unfold Fmt
  have HT := hid0 (fun W (hb : Below w.heap.size w W) => tz16 W (dt_later hT hb))
  have HB := hid0 (fun o : Obj => (Below.refl w.heap.size w).alloc (Nat.le_refl _) o)
  clear hT
  go_enter Tryz.func121, Tryz.ntmps121
  go_wp2_with (first
    | (go_at_call 151; refine (pow16 _).mono ?_; rintro e w1 ⟨rfl, rfl⟩)
    | (go_at_call 152; refine (HT.out _ (HB.out _)).mono ?_; rintro e w1 ⟨rfl, rfl⟩)
    | fail)
  refine wp_loop_rounds 1 ?_
  rw [rounds_succ]
  go_wp2
  rw [conv1 w _ _ 101]
  rotate_left
  · kernel_rfl
  go_wp2
  go_ret2
  exact ⟨rfl, HB.out _⟩
set_option maxRecDepth 10000 in
set_option maxHeartbeats 800000 in
theorem fmt_15 (w : World) (hT : DT w) : Fmt 15 w := by
  unfold Fmt
  have HT := hid0 (fun W (hb : Below w.heap.size w W) => tz16 W (dt_later hT hb))
  have HB := hid0 (fun o : Obj => (Below.refl w.heap.size w).alloc (Nat.le_refl _) o)
  clear hT
  go_enter Tryz.func121, Tryz.ntmps121
  go_wp2_with (first
    | (go_at_call 151; refine (pow16 _).mono ?_; rintro e w1 ⟨rfl, rfl⟩)
    | (go_at_call 152; refine (HT.out _ (HB.out _)).mono ?_; rintro e w1 ⟨rfl, rfl⟩)
    | fail)
  refine wp_loop_rounds 1 ?_
  rw [rounds_succ]
  go_wp2
  rw [conv1 w _ _ 102]
  rotate_left
  · kernel_rfl
  go_wp2
  go_ret2
  exact ⟨rfl, HB.out _⟩
set_option maxRecDepth 10000 in
set_option maxHeartbeats 800000 in
theorem fmt_16 (w : World) (hT : DT w) : Fmt 16 w := by
  unfold Fmt
  have HT := hid0 (fun W (hb : Below w.heap.size w W) => tz16 W (dt_later hT hb))
  have HB := hid0 (fun o : Obj => (Below.refl w.heap.size w).alloc (Nat.le_refl _) o)
  clear hT
  go_enter Tryz.func121, Tryz.ntmps121
  go_wp2_with (first
    | (go_at_call 151; refine (pow16 _).mono ?_; rintro e w1 ⟨rfl, rfl⟩)
    | (go_at_call 152; refine (HT.out _ (HB.out _)).mono ?_; rintro e w1 ⟨rfl, rfl⟩)
    | fail)
  refine wp_loop_rounds 2 ?_
  rw [rounds_succ]
  go_wp2
  rw [rounds_succ]
  go_wp2
  rw [conv2 w _ _ 49 48]
  rotate_left
  · kernel_rfl
  · kernel_rfl
  go_wp2
  go_ret2
  exact ⟨rfl, HB.out _⟩
set_option maxRecDepth 10000 in
set_option maxHeartbeats 800000 in
theorem fmt_17 (w : World) (hT : DT w) : Fmt 17 w := by
  unfold Fmt
  have HT := hid0 (fun W (hb : Below w.heap.size w W) => tz16 W (dt_later hT hb))
  have HB := hid0 (fun o : Obj => (Below.refl w.heap.size w).alloc (Nat.le_refl _) o)
  clear hT
  go_enter Tryz.func121, Tryz.ntmps121
  go_wp2_with (first
    | (go_at_call 151; refine (pow16 _).mono ?_; rintro e w1 ⟨rfl, rfl⟩)
    | (go_at_call 152; refine (HT.out _ (HB.out _)).mono ?_; rintro e w1 ⟨rfl, rfl⟩)
    | fail)
  refine wp_loop_rounds 2 ?_
  rw [rounds_succ]
  go_wp2
  rw [rounds_succ]
  go_wp2
  rw [conv2 w _ _ 49 49]
  rotate_left
  · kernel_rfl
  · kernel_rfl
  go_wp2
  go_ret2
  exact ⟨rfl, HB.out _⟩
set_option maxRecDepth 10000 in
set_option maxHeartbeats 800000 in
theorem fmt_18 (w : World) (hT : DT w) : Fmt 18 w := by
  unfold Fmt
  have HT := hid0 (fun W (hb : Below w.heap.size w W) => tz16 W (dt_later hT hb))
  have HB := hid0 (fun o : Obj => (Below.refl w.heap.size w).alloc (Nat.le_refl _) o)
  clear hT
  go_enter Tryz.func121, Tryz.ntmps121
  go_wp2_with (first
    | (go_at_call 151; refine (pow16 _).mono ?_; rintro e w1 ⟨rfl, rfl⟩)
    | (go_at_call 152; refine (HT.out _ (HB.out _)).mono ?_; rintro e w1 ⟨rfl, rfl⟩)
    | fail)
  refine wp_loop_rounds 2 ?_
  rw [rounds_succ]
  go_wp2
  rw [rounds_succ]
  go_wp2
  rw [conv2 w _ _ 49 50]
  rotate_left
  · kernel_rfl
  · kernel_rfl
  go_wp2
  go_ret2
  exact ⟨rfl, HB.out _⟩
set_option maxRecDepth 10000 in
set_option maxHeartbeats 800000 in
theorem fmt_19 (w : World) (hT : DT w) : Fmt 19 w := by
  unfold Fmt
  have HT := hid0 (fun W (hb : Below w.heap.size w W) => tz16 W (dt_later hT hb))
  have HB := hid0 (fun o : Obj => (Below.refl w.heap.size w).alloc (Nat.le_refl _) o)
  clear hT
  go_enter Tryz.func121, Tryz.ntmps121
  go_wp2_with (first
    | (go_at_call 151; refine (pow16 _).mono ?_; rintro e w1 ⟨rfl, rfl⟩)
    | (go_at_call 152; refine (HT.out _ (HB.out _)).mono ?_; rintro e w1 ⟨rfl, rfl⟩)
    | fail)
  refine wp_loop_rounds 2 ?_
  rw [rounds_succ]
  go_wp2
  rw [rounds_succ]
  go_wp2
  rw [conv2 w _ _ 49 51]
  rotate_left
  · kernel_rfl
  · kernel_rfl
  go_wp2
  go_ret2
  exact ⟨rfl, HB.out _⟩
set_option maxRecDepth 10000 in
set_option maxHeartbeats 800000 in
theorem fmt_20 (w : World) (hT : DT w) : Fmt 20 w := by
  unfold Fmt
  have HT := hid0 (fun W (hb : Below w.heap.size w W) => tz16 W (dt_later hT hb))
  have HB := hid0 (fun o : Obj => (Below.refl w.heap.size w).alloc (Nat.le_refl _) o)
  clear hT
  go_enter Tryz.func121, Tryz.ntmps121
  go_wp2_with (first
    | (go_at_call 151; refine (pow16 _).mono ?_; rintro e w1 ⟨rfl, rfl⟩)
    | (go_at_call 152; refine (HT.out _ (HB.out _)).mono ?_; rintro e w1 ⟨rfl, rfl⟩)
    | fail)
  refine wp_loop_rounds 2 ?_
  rw [rounds_succ]
  go_wp2
  rw [rounds_succ]
  go_wp2
  rw [conv2 w _ _ 49 52]
  rotate_left
  · kernel_rfl
  · kernel_rfl
  go_wp2
  go_ret2
  exact ⟨rfl, HB.out _⟩
set_option maxRecDepth 10000 in
set_option maxHeartbeats 800000 in
theorem fmt_21 (w : World) (hT : DT w) : Fmt 21 w := by
  unfold Fmt
  have HT := hid0 (fun W (hb : Below w.heap.size w W) => tz16 W (dt_later hT hb))
  have HB := hid0 (fun o : Obj => (Below.refl w.heap.size w).alloc (Nat.le_refl _) o)
  clear hT
  go_enter Tryz.func121, Tryz.ntmps121
  go_wp2_with (first
    | (go_at_call 151; refine (pow16 _).mono ?_; rintro e w1 ⟨rfl, rfl⟩)
    | (go_at_call 152; refine (HT.out _ (HB.out _)).mono ?_; rintro e w1 ⟨rfl, rfl⟩)
    | fail)
  refine wp_loop_rounds 2 ?_
  rw [rounds_succ]
  go_wp2
  rw [rounds_succ]
  go_wp2
  rw [conv2 w _ _ 49 53]
  rotate_left
  · kernel_rfl
  · kernel_rfl
  go_wp2
  go_ret2
  exact ⟨rfl, HB.out _⟩
set_option maxRecDepth 10000 in
set_option maxHeartbeats 800000 in
theorem fmt_22 (w : World) (hT : DT w) : Fmt 22 w := by
  unfold Fmt
  have HT := hid0 (fun W (hb : Below w.heap.size w W) => tz16 W (dt_later hT hb))
  have HB := hid0 (fun o : Obj => (Below.refl w.heap.size w).alloc (Nat.le_refl _) o)
  clear hT
  go_enter Tryz.func121, Tryz.ntmps121
  go_wp2_with (first
    | (go_at_call 151; refine (pow16 _).mono ?_; rintro e w1 ⟨rfl, rfl⟩)
    | (go_at_call 152; refine (HT.out _ (HB.out _)).mono ?_; rintro e w1 ⟨rfl, rfl⟩)
    | fail)
  refine wp_loop_rounds 2 ?_
  rw [rounds_succ]
  go_wp2
  rw [rounds_succ]
  go_wp2
  rw [conv2 w _ _ 49 54]
  rotate_left
  · kernel_rfl
  · kernel_rfl
  go_wp2
  go_ret2
  exact ⟨rfl, HB.out _⟩
set_option maxRecDepth 10000 in
set_option maxHeartbeats 800000 in
theorem fmt_23 (w : World) (hT : DT w) : Fmt 23 w := by
  unfold Fmt
  have HT := hid0 (fun W (hb : Below w.heap.size w W) => tz16 W (dt_later hT hb))
  have HB := hid0 (fun o : Obj => (Below.refl w.heap.size w).alloc (Nat.le_refl _) o)
  clear hT
  go_enter Tryz.func121, Tryz.ntmps121
  go_wp2_with (first
    | (go_at_call 151; refine (pow16 _).mono ?_; rintro e w1 ⟨rfl, rfl⟩)
    | (go_at_call 152; refine (HT.out _ (HB.out _)).mono ?_; rintro e w1 ⟨rfl, rfl⟩)
    | fail)
  refine wp_loop_rounds 2 ?_
  rw [rounds_succ]
  go_wp2
  rw [rounds_succ]
  go_wp2
  rw [conv2 w _ _ 49 55]
  rotate_left
  · kernel_rfl
  · kernel_rfl
  go_wp2
  go_ret2
  exact ⟨rfl, HB.out _⟩
set_option maxRecDepth 10000 in
set_option maxHeartbeats 800000 in
theorem fmt_24 (w : World) (hT : DT w) : Fmt 24 w := by
  unfold Fmt
  have HT := hid0 (fun W (hb : Below w.heap.size w W) => tz16 W (dt_later hT hb))
  have HB := hid0 (fun o : Obj => (Below.refl w.heap.size w).alloc (Nat.le_refl _) o)
  clear hT
  go_enter Tryz.func121, Tryz.ntmps121
  go_wp2_with (first
    | (go_at_call 151; refine (pow16 _).mono ?_; rintro e w1 ⟨rfl, rfl⟩)
    | (go_at_call 152; refine (HT.out _ (HB.out _)).mono ?_; rintro e w1 ⟨rfl, rfl⟩)
    | fail)
  refine wp_loop_rounds 2 ?_
  rw [rounds_succ]
  go_wp2
  rw [rounds_succ]
  go_wp2
  rw [conv2 w _ _ 49 56]
  rotate_left
  · kernel_rfl
  · kernel_rfl
  go_wp2
  go_ret2
  exact ⟨rfl, HB.out _⟩
set_option maxRecDepth 10000 in
set_option maxHeartbeats 800000 in
theorem fmt_25 (w : World) (hT : DT w) : Fmt 25 w := by
  unfold Fmt
  have HT := hid0 (fun W (hb : Below w.heap.size w W) => tz16 W (dt_later hT hb))
  have HB := hid0 (fun o : Obj => (Below.refl w.heap.size w).alloc (Nat.le_refl _) o)
  clear hT
  go_enter Tryz.func121, Tryz.ntmps121
  go_wp2_with (first
    | (go_at_call 151; refine (pow16 _).mono ?_; rintro e w1 ⟨rfl, rfl⟩)
    | (go_at_call 152; refine (HT.out _ (HB.out _)).mono ?_; rintro e w1 ⟨rfl, rfl⟩)
    | fail)
  refine wp_loop_rounds 2 ?_
  rw [rounds_succ]
  go_wp2
  rw [rounds_succ]
  go_wp2
  rw [conv2 w _ _ 49 57]
  rotate_left
  · kernel_rfl
  · kernel_rfl
  go_wp2
  go_ret2
  exact ⟨rfl, HB.out _⟩
set_option maxRecDepth 10000 in
set_option maxHeartbeats 800000 in
theorem fmt_26 (w : World) (hT : DT w) : Fmt 26 w := by
  unfold Fmt
  have HT := hid0 (fun W (hb : Below w.heap.size w W) => tz16 W (dt_later hT hb))
  have HB := hid0 (fun o : Obj => (Below.refl w.heap.size w).alloc (Nat.le_refl _) o)
  clear hT
  go_enter Tryz.func121, Tryz.ntmps121
  go_wp2_with (first
    | (go_at_call 151; refine (pow16 _).mono ?_; rintro e w1 ⟨rfl, rfl⟩)
    | (go_at_call 152; refine (HT.out _ (HB.out _)).mono ?_; rintro e w1 ⟨rfl, rfl⟩)
    | fail)
  refine wp_loop_rounds 2 ?_
  rw [rounds_succ]
  go_wp2
  rw [rounds_succ]
  go_wp2
  rw [conv2 w _ _ 49 97]
  rotate_left
  · kernel_rfl
  · kernel_rfl
  go_wp2
  go_ret2
  exact ⟨rfl, HB.out _⟩
set_option maxRecDepth 10000 in
set_option maxHeartbeats 800000 in
theorem fmt_27 (w : World) (hT : DT w) : Fmt 27 w := by
  unfold Fmt
  have HT := hid0 (fun W (hb : Below w.heap.size w W) => tz16 W (dt_later hT hb))
  have HB := hid0 (fun o : Obj => (Below.refl w.heap.size w).alloc (Nat.le_refl _) o)
  clear hT
  go_enter Tryz.func121, Tryz.ntmps121
  go_wp2_with (first
    | (go_at_call 151; refine (pow16 _).mono ?_; rintro e w1 ⟨rfl, rfl⟩)
    | (go_at_call 152; refine (HT.out _ (HB.out _)).mono ?_; rintro e w1 ⟨rfl, rfl⟩)
    | fail)
  refine wp_loop_rounds 2 ?_
  rw [rounds_succ]
  go_wp2
  rw [rounds_succ]
  go_wp2
  rw [conv2 w _ _ 49 98]
  rotate_left
  · kernel_rfl
  · kernel_rfl
  go_wp2
  go_ret2
  exact ⟨rfl, HB.out _⟩
set_option maxRecDepth 10000 in
set_option maxHeartbeats 800000 in
theorem fmt_28 (w : World) (hT : DT w) : Fmt 28 w := by
  unfold Fmt
  have HT := hid0 (fun W (hb : Below w.heap.size w W) => tz16 W (dt_later hT hb))
  have HB := hid0 (fun o : Obj => (Below.refl w.heap.size w).alloc (Nat.le_refl _) o)
  clear hT
  go_enter Tryz.func121, Tryz.ntmps121
  go_wp2_with (first
    | (go_at_call 151; refine (pow16 _).mono ?_; rintro e w1 ⟨rfl, rfl⟩)
    | (go_at_call 152; refine (HT.out _ (HB.out _)).mono ?_; rintro e w1 ⟨rfl, rfl⟩)
    | fail)
  refine wp_loop_rounds 2 ?_
  rw [rounds_succ]
  go_wp2
  rw [rounds_succ]
  go_wp2
  rw [conv2 w _ _ 49 99]
  rotate_left
  · kernel_rfl
  · kernel_rfl
  go_wp2
  go_ret2
  exact ⟨rfl, HB.out _⟩
set_option maxRecDepth 10000 in
set_option maxHeartbeats 800000 in
theorem fmt_29 (w : World) (hT : DT w) : Fmt 29 w := by
  unfold Fmt
  have HT := hid0 (fun W (hb : Below w.heap.size w W) => tz16 W (dt_later hT hb))
  have HB := hid0 (fun o : Obj => (Below.refl w.heap.size w).alloc (Nat.le_refl _) o)
  clear hT
  go_enter Tryz.func121, Tryz.ntmps121
  go_wp2_with (first
    | (go_at_call 151; refine (pow16 _).mono ?_; rintro e w1 ⟨rfl, rfl⟩)
    | (go_at_call 152; refine (HT.out _ (HB.out _)).mono ?_; rintro e w1 ⟨rfl, rfl⟩)
    | fail)
  refine wp_loop_rounds 2 ?_
  rw [rounds_succ]
  go_wp2
  rw [rounds_succ]
  go_wp2
  rw [conv2 w _ _ 49 100]
  rotate_left
  · kernel_rfl
  · kernel_rfl
  go_wp2
  go_ret2
  exact ⟨rfl, HB.out _⟩
set_option maxRecDepth 10000 in
set_option maxHeartbeats 800000 in
theorem fmt_30 (w : World) (hT : DT w) : Fmt 30 w := by
  unfold Fmt
  have HT := hid0 (fun W (hb : Below w.heap.size w W) => tz16 W (dt_later hT hb))
  have HB := hid0 (fun o : Obj => (Below.refl w.heap.size w).alloc (Nat.le_refl _) o)
  clear hT
  go_enter Tryz.func121, Tryz.ntmps121
  go_wp2_with (first
    | (go_at_call 151; refine (pow16 _).mono ?_; rintro e w1 ⟨rfl, rfl⟩)
    | (go_at_call 152; refine (HT.out _ (HB.out _)).mono ?_; rintro e w1 ⟨rfl, rfl⟩)
    | fail)
  refine wp_loop_rounds 2 ?_
  rw [rounds_succ]
  go_wp2
  rw [rounds_succ]
  go_wp2
  rw [conv2 w _ _ 49 101]
  rotate_left
  · kernel_rfl
  · kernel_rfl
  go_wp2
  go_ret2
  exact ⟨rfl, HB.out _⟩
set_option maxRecDepth 10000 in
set_option maxHeartbeats 800000 in
theorem fmt_31 (w : World) (hT : DT w) : Fmt 31 w := by
  unfold Fmt
  have HT := hid0 (fun W (hb : Below w.heap.size w W) => tz16 W (dt_later hT hb))
  have HB := hid0 (fun o : Obj => (Below.refl w.heap.size w).alloc (Nat.le_refl _) o)
  clear hT
  go_enter Tryz.func121, Tryz.ntmps121
  go_wp2_with (first
    | (go_at_call 151; refine (pow16 _).mono ?_; rintro e w1 ⟨rfl, rfl⟩)
    | (go_at_call 152; refine (HT.out _ (HB.out _)).mono ?_; rintro e w1 ⟨rfl, rfl⟩)
    | fail)
  refine wp_loop_rounds 2 ?_
  rw [rounds_succ]
  go_wp2
  rw [rounds_succ]
  go_wp2
  rw [conv2 w _ _ 49 102]
  rotate_left
  · kernel_rfl
  · kernel_rfl
  go_wp2
  go_ret2
  exact ⟨rfl, HB.out _⟩
set_option maxRecDepth 10000 in
set_option maxHeartbeats 800000 in
theorem fmt_127 (w : World) (hT : DT w) : Fmt 127 w := by
  unfold Fmt
  have HT := hid0 (fun W (hb : Below w.heap.size w W) => tz16 W (dt_later hT hb))
  have HB := hid0 (fun o : Obj => (Below.refl w.heap.size w).alloc (Nat.le_refl _) o)
  clear hT
  go_enter Tryz.func121, Tryz.ntmps121
  go_wp2_with (first
    | (go_at_call 151; refine (pow16 _).mono ?_; rintro e w1 ⟨rfl, rfl⟩)
    | (go_at_call 152; refine (HT.out _ (HB.out _)).mono ?_; rintro e w1 ⟨rfl, rfl⟩)
    | fail)
  refine wp_loop_rounds 2 ?_
  rw [rounds_succ]
  go_wp2
  rw [rounds_succ]
  go_wp2
  rw [conv2 w _ _ 55 102]
  rotate_left
  · kernel_rfl
  · kernel_rfl
  go_wp2
  go_ret2
  exact ⟨rfl, HB.out _⟩
theorem fmt_any (n : Nat) (hn : n < 32 ∨ n = 127) (w : World) (hT : DT w) : Fmt n w := by
  have h : n = 0 ∨ n = 1 ∨ n = 2 ∨ n = 3 ∨ n = 4 ∨ n = 5 ∨ n = 6 ∨ n = 7 ∨ n = 8 ∨ n = 9 ∨ n = 10 ∨ n = 11 ∨ n = 12 ∨ n = 13 ∨ n = 14 ∨ n = 15 ∨ n = 16 ∨ n = 17 ∨ n = 18 ∨ n = 19 ∨ n = 20 ∨ n = 21 ∨ n = 22 ∨ n = 23 ∨ n = 24 ∨ n = 25 ∨ n = 26 ∨ n = 27 ∨ n = 28 ∨ n = 29 ∨ n = 30 ∨ n = 31 ∨ n = 127 := by omega
  rcases h with rfl | rfl | rfl | rfl | rfl | rfl | rfl | rfl | rfl | rfl | rfl | rfl | rfl | rfl | rfl | rfl | rfl | rfl | rfl | rfl | rfl | rfl | rfl | rfl | rfl | rfl | rfl | rfl | rfl | rfl | rfl | rfl | rfl
  · exact fmt_0 w hT
  · exact fmt_1 w hT
  · exact fmt_2 w hT
  · exact fmt_3 w hT
  · exact fmt_4 w hT
  · exact fmt_5 w hT
  · exact fmt_6 w hT
  · exact fmt_7 w hT
  · exact fmt_8 w hT
  · exact fmt_9 w hT
  · exact fmt_10 w hT
  · exact fmt_11 w hT
  · exact fmt_12 w hT
  · exact fmt_13 w hT
  · exact fmt_14 w hT
  · exact fmt_15 w hT
  · exact fmt_16 w hT
  · exact fmt_17 w hT
  · exact fmt_18 w hT
  · exact fmt_19 w hT
  · exact fmt_20 w hT
  · exact fmt_21 w hT
  · exact fmt_22 w hT
  · exact fmt_23 w hT
  · exact fmt_24 w hT
  · exact fmt_25 w hT
  · exact fmt_26 w hT
  · exact fmt_27 w hT
  · exact fmt_28 w hT
  · exact fmt_29 w hT
  · exact fmt_30 w hT
  · exact fmt_31 w hT
  · exact fmt_127 w hT
set_option maxRecDepth 10000 in
set_option maxHeartbeats 400000 in
theorem formatInt_any (n : Nat) (hn : n < 32 ∨ n = 127) (w : World) (hT : DT w) : Calls Tryz.prog 57 #[.int .i64 (n : Int), .int .i64 16] w fun e w' => e = .returned (.string ⟨(hexL n).toArray⟩) ∧ Below w.heap.size w w' := by
  have hI : Calls Tryz.prog 83 #[.int .i64 (n : Int), .int .i64 16] w fun e w' => e = .returned (.string ⟨(hexL n).toArray⟩) ∧ Below w.heap.size w w' := by
    have hF := fmt_any n hn w hT
    unfold Fmt at hF
    have hnI : ¬ (n : Int) < 0 := by omega
    have hnu : IntKind.u64.wrap (n : Int) = (n : Int) := by rw [IntKind.wrap_u64]; omega
    have HF := hid0 hF
    generalize (hexL n).toArray = X at *
    clear hF hT hn
    go_enter Tryz.func83, Tryz.ntmps83
    go_wp2_with (go_at_call 121; refine HF.out.mono ?_; rintro e w1 ⟨rfl, hb⟩; have HB := hid0 hb; clear hb)
    go_ret
    exact ⟨rfl, HB.out⟩
  have HI := hid0 hI
  generalize (hexL n).toArray = X at *
  clear hI hT hn
  go_enter Tryz.func57, Tryz.ntmps57
  go_wp2_with (go_at_call 83; refine HI.out.mono ?_; rintro e w1 ⟨rfl, hb⟩; have HB := hid0 hb; clear hb)
  go_ret
  exact ⟨rfl, HB.out⟩
end Go.Proofs.YtlfeiadgahdgoaaGreatDoor
namespace Go.Proofs.YtlfeiadgahdgoaaGreatDoor
open Go.RowKit Go.Shelf
attribute [local go_sem] Oper.semAt_some
set_option maxRecDepth 100000 in
set_option maxHeartbeats 1000000 in
theorem runeCount_any (s : ByteArray) (w : World) (hs : s.size < 9223372036854775807) :
    Calls Tryz.prog 45 #[.string s] w fun e w' => ∃ c : Nat, c ≤ s.size ∧ e = .returned (.int .i64 (c : Int)) ∧ Below w.heap.size w w' := by
  go_enter Tryz.func45, Tryz.ntmps45
  go_wp2
  go_loopw [2] (fun n w' => ∃ (pos b acc : Nat), w' = w.iter s pos ∧ n = .int .i64 acc ∧ acc + Lib.runeCountFrom s b pos = Lib.runeCount s ∧ s.size ≤ pos + b ∧ acc ≤ pos) (fun _ w' => s.size - w'.iterPos w.heap.size)
  case atStart => exact ⟨0, s.size, 0, rfl, rfl, by simp [Lib.runeCount], by omega, Nat.le_refl _⟩
  case round =>
    obtain ⟨pos, b, acc, rfl, rfl, hc, hb, ha⟩ := hrel
    by_cases hp : pos < s.size
    · have hnx : ∀ ty, (Instr.next (.pointer (some ⟨w.heap.size, 0, none⟩)) true ty).run Tryz.prog (w.iter s pos) = _ := fun ty => run_next_any w s pos ty hp
      have hwd := Lib.decode_width_pos s pos hp
      go_wp2
      go_roundw
      case rel =>
        cases b with
        | zero => omega
        | succ b =>
          refine ⟨pos + (Utf8.decode s pos).2, b, acc + 1, rfl, by go_num, ?_, by omega, by omega⟩
          rw [← hc]
          simp [Lib.runeCountFrom, hp]
          omega
      case measure =>
        simp
        omega
    · have hnx : ∀ ty, (Instr.next (.pointer (some ⟨w.heap.size, 0, none⟩)) true ty).run Tryz.prog (w.iter s pos) = _ := fun ty => run_next_end w s pos ty hp
      go_wp2
      go_ret
      have hle := Lib.runeCount_le s
      exact ⟨acc, by omega, rfl, (Below.refl _ _).alloc (Nat.le_refl _) _⟩
set_option maxRecDepth 100000 in
set_option maxHeartbeats 1000000 in
theorem all_in (n : Nat) (s : ByteArray) (w : World) :
    CallsIn Fence.wide n Tryz.prog 46 #[.string s] w fun e w' => e = .returned (.func (.func 78) #[] #[.pointer (some ⟨w.heap.size, 0, none⟩)]) ∧ w' = w.alloc (.cells #[.string s] 9) := by
  refine callsIn_of_wp Tryz.func46 rfl trivial ?_ rfl
  simp only [Tryz.ntmps46, List.size_toArray, List.length_cons, List.length_nil, Nat.reduceAdd, Nat.reduceSub, Array.replicate_succ, Array.replicate_zero, List.push_toArray, List.append_toArray, List.nil_append, List.cons_append]
  gi_wp2
  go_ret
  exact ⟨rfl, rfl⟩
/-- The block to which the slice in a box points. -/
def rowIn (bF : Nat) (W : World) : Option Nat := match W.heap[bF]? with
  | some (.cells cs _ _) => (cs[0]?).bind Value.ownBlock
  | _ => none
def InR (bF : Nat) (W : World) : Prop := ∀ g, rowIn bF W = some g → g < W.heap.size
/-- What a round keeps: all cells but the box and the row to which it points. -/
structure KeepsBut (bF : Nat) (W W' : World) : Prop where
  size : W.heap.size ≤ W'.heap.size
  row : rowIn bF W' = rowIn bF W ∨ ∀ g, rowIn bF W' = some g → W.heap.size ≤ g
  inR : InR bF W → InR bF W'
  kept : ∀ i c t z, W.heap[i]? = some (.cells c t z) → i ≠ bF → some i ≠ rowIn bF W → W'.heap[i]? = some (.cells c t z)
theorem KeepsBut.trans {bF : Nat} {A B C : World} (h1 : KeepsBut bF A B) (h2 : KeepsBut bF B C) : KeepsBut bF A C where
  size := Nat.le_trans h1.size h2.size
  row := by
    rcases h2.row with h | h
    · rcases h1.row with h' | h'
      · exact .inl (h.trans h')
      · exact .inr (fun g hg => h' g (h ▸ hg))
    · exact .inr (fun g hg => Nat.le_trans h1.size (h g hg))
  inR := fun h => h2.inR (h1.inR h)
  kept := fun i c t z hi hn hr => h2.kept i c t z (h1.kept i c t z hi hn hr) hn (by
    have hlt := (Array.getElem?_eq_some_iff.1 hi).1
    rcases h1.row with h | h
    · rw [h]; exact hr
    · intro e
      have := h i e.symm
      omega)
theorem rowIn_same {bF : Nat} {W W' : World} (h : W'.heap[bF]? = W.heap[bF]?) : rowIn bF W' = rowIn bF W := by rw [rowIn, rowIn, h]
theorem KeepsBut.putObj {bF n : Nat} (hF : bF < n) (W : World) (l : Nat) (o o' : Obj) (hl : n ≤ l) (ho : W.heap[l]? = some o) (hc : o.isCells = false) : KeepsBut bF W (W.putObj l o') := by
  have hrow : rowIn bF (W.putObj l o') = rowIn bF W := rowIn_same (World.putObj_heap_other (by omega))
  refine ⟨by simp, .inl hrow, fun h g hg => ?_, fun i c t z hi _ _ => ?_⟩
  · have := h g (hrow ▸ hg)
    simpa using this
  · rw [World.putObj_heap_other (fun e => by subst e; rw [ho] at hi; simp at hi; subst hi; simp [Obj.isCells] at hc)]
    exact hi
theorem SeqAt.of_block {W W' : World} (h : SeqAt W) (hb : W'.heap[15]? = W.heap[15]?) : SeqAt W' := fun i hi k hk => (World.cell?_of_block (a := ⟨15, _, none⟩) hb).trans (h i hi k hk)
theorem SeqAt.block {W : World} (h : SeqAt W) : ∃ c t z, W.heap[15]? = some (.cells c t z) := by
  have h1 := (h.row 0 (by omega)).1
  unfold World.cell? at h1
  split at h1
  · rename_i c t z he
    exact ⟨c, t, z, he⟩
  · simp at h1
theorem grownBy_of_below {W W' : World} (h : Below W.heap.size W W') : W.grownBy W' none := ⟨h.os, h.tape, h.output, h.size, fun i hi _ => h.block i hi⟩
set_option maxRecDepth 100000 in
set_option maxHeartbeats 2000000 in
theorem all1_in (n : Nat) (hn : 1 ≤ n) (l Bn bF B : Nat) (s : ByteArray) (hs : s.size ≤ 4194400) (J Jx : List (Int × Nat × Nat) → World → Prop) (hJ : AbidesFrom B J)
    (hY : ∀ pre x W, J pre W → pre.length < (unitsOf s.data.toList).length → YieldAt Fence.wide (n - 1) Tryz.prog l #[unitVal x.1 x.2.1 x.2.2] W fun e W' =>
      (e = .returned (.bool true) ∧ J (pre ++ [x]) W' ∧ KeepsBut bF W W') ∨ (e = .returned (.bool false) ∧ Jx (pre ++ [x]) W'))
    (W : World) (hBn : W.heap[Bn]? = some (.cells #[.string s] 9 (0, 0))) (hT : SeqAt W) (hF : bF < W.heap.size) (hBF : Bn ≠ bF) (hgF : 15 ≠ bF) (hIn : InR bF W) (hr1 : rowIn bF W ≠ some Bn) (hr2 : rowIn bF W ≠ some 15) (h0 : J [] W) :
    CallsIn Fence.wide n Tryz.prog 78 #[.func (.yield l) #[] #[], .pointer (some ⟨Bn, 0, none⟩)] W fun e W' => (∃ v, e = .returned v) ∧
      ((∃ ys, ys = unitsOf s.data.toList ∧ J ys W') ∨ (∃ pre, pre <+: unitsOf s.data.toList ∧ Jx pre W')) := by
  refine callsIn_of_wp Tryz.func78 rfl trivial ?_ rfl
  simp only [Tryz.ntmps78, List.size_toArray, List.length_cons, List.length_nil, Nat.reduceAdd, Nat.reduceSub, Array.replicate_succ, Array.replicate_zero, List.push_toArray, List.append_toArray, List.nil_append, List.cons_append]
  gi_wp2
  have hlen : s.data.toList.length = s.size := bsize s
  have HYd := hid hY
  have HJd := hid hJ
  clear hY hJ
  gi_loopw [3] (fun i wr => ∃ (k : Nat) (pre : List (Int × Nat × Nat)), k ≤ s.size ∧ i = .int .i64 (k : Int) ∧ unitsOf s.data.toList = pre ++ unitsAt s.data.toList k ∧ J pre wr ∧
      wr.heap[Bn]? = some (.cells #[.string s] 9 (0, 0)) ∧ SeqAt wr ∧ bF < wr.heap.size ∧ InR bF wr ∧ rowIn bF wr ≠ some Bn ∧ rowIn bF wr ≠ some 15)
    (fun i _ => s.size - (intOf i).toNat)
  case atStart => exact ⟨0, [], Nat.zero_le _, rfl, rfl, h0, hBn, hT, hF, hIn, hr1, hr2⟩
  case round =>
    clear hBn hT hF hIn hr1 hr2 h0
    obtain ⟨k, pre, hk, rfl, hpre, hJs, hBn, hT, hF, hIn, hr1, hr2⟩ := hrel
    have hcell : wr.cell? ⟨Bn, 0, none⟩ = some (.string s) := by rw [cell_of_row wr Bn 0 _ _ _ hBn]; rfl
    have HPre := hid hpre
    have HJs := hid hJs
    have HBn := hid hBn
    have HT := hid hT
    have HIn := hid hIn
    have HR1 := hid hr1
    have HR2 := hid hr2
    clear hpre hJs hBn hT hIn hr1 hr2
    by_cases hlt : k < s.size
    · have hl := drop_cons s k hlt
      have hsz1 := uni_size s[k] (s.data.toList.drop (k + 1))
      have hbd := uni_bound s[k] (s.data.toList.drop (k + 1))
      rw [← hl] at hsz1 hbd
      have hll : (s.data.toList.drop (k + 1)).length = s.size - (k + 1) := by rw [List.length_drop, hlen]
      rw [hll] at hsz1
      have HU : Hid (unitsAt s.data.toList k = ((uniOf (s.data.toList.drop k)).1, k, k + (uniOf (s.data.toList.drop k)).2) :: unitsAt s.data.toList (k + (uniOf (s.data.toList.drop k)).2)) := unitsAt_step _ _ (by omega)
      have HC := hid (unitAt_any s k hlt (by omega) wr HT.out)
      clear hl hll hlen
      generalize (uniOf (s.data.toList.drop k)).1 = p at *
      generalize (uniOf (s.data.toList.drop k)).2 = m at *
      have hpl : pre.length < (unitsOf s.data.toList).length := by rw [HPre.out, HU.out]; simp
      have HPl := hid hpl
      clear hpl
      gi_wp2_with (refine ⟨trivial, ?_⟩; gi_at_call 79; refine (callsIn_wide.2 HC.out).mono ?_; rintro e w2 ⟨rfl, hb⟩; simp only [unitVal]; have hw3 : Below wr.heap.size wr (w2.alloc (.cells #[.int .i64 p, .int .i64 (k : Int), .int .i64 ((k : Int) + (m : Int))] 67)) := (hb.alloc hb.size _); obtain ⟨fn, tmps, assign, body, hy, hR⟩ := HYd.out pre (p, k, k + m) (w2.alloc (.cells #[.int .i64 p, .int .i64 (k : Int), .int .i64 ((k : Int) + (m : Int))] 67)) (HJd.out _ _ _ none HJs.out (grownBy_of_below hw3) (fun r e => by cases e)) HPl.out; dsimp only [unitVal] at hy; simp only [Int.natCast_add] at hy; have HRd := hid hR; clear hR)
      have hu : (w2.alloc (.cells #[.int .i64 p, .int .i64 (k : Int), .int .i64 ((k : Int) + (m : Int))] 67)).heap[w2.heap.size]? = some (.cells #[.int .i64 p, .int .i64 (k : Int), .int .i64 ((k : Int) + (m : Int))] 67 (0, 0)) := heap_alloc_new _ _
      have HU3 := hid hu
      have hrow : rowIn bF (w2.alloc (.cells #[.int .i64 p, .int .i64 (k : Int), .int .i64 ((k : Int) + (m : Int))] 67)) = rowIn bF wr := rowIn_same (hw3.block bF hF)
      have HRow := hid hrow
      have HW3 := hid hw3
      have hin : InR bF (w2.alloc (.cells #[.int .i64 p, .int .i64 (k : Int), .int .i64 ((k : Int) + (m : Int))] 67)) := fun g hg => Nat.lt_of_lt_of_le (HIn.out g (hrow ▸ hg)) hw3.size
      have HIn3 := hid hin
      have hsz2 := hb.size
      clear hu hrow hw3 hin hy hb HC
      refine HRd.out.mono ?_
      rintro e W3 (⟨rfl, hJ3, hk3⟩ | ⟨rfl, hJx3⟩)
      · have hq3 : W3.heap[w2.heap.size]? = _ := hk3.kept w2.heap.size _ _ _ HU3.out (by omega) (by rw [HRow.out]; intro e; have := HIn.out _ e.symm; omega)
        obtain ⟨⟨_, _, c2⟩, _⟩ := row3 hq3
        have hbn3 : W3.heap[Bn]? = _ := hk3.kept Bn _ _ _ ((HW3.out.block Bn (Array.getElem?_eq_some_iff.1 HBn.out).1).trans HBn.out) hBF (by rw [HRow.out]; exact fun e => HR1.out e.symm)
        obtain ⟨ct, tt, zt, htt⟩ := HT.out.block
        have htt3 : W3.heap[15]? = _ := hk3.kept _ _ _ _ ((HW3.out.block _ HT.out.pos).trans htt) hgF (by rw [HRow.out]; exact fun e => HR2.out e.symm)
        have HT3 := hid (HT.out.of_block (W' := W3) (htt3.trans htt.symm))
        have HBn3 := hid hbn3
        have HI3 := hid (hk3.inR HIn3.out)
        have hs3 : wr.heap.size ≤ W3.heap.size := Nat.le_trans HW3.out.size hk3.size
        have hrow3 := hk3.row
        rw [HRow.out] at hrow3
        have HRW : Hid (rowIn bF W3 ≠ some Bn ∧ rowIn bF W3 ≠ some 15) := by
          have hb1 := (Array.getElem?_eq_some_iff.1 HBn.out).1
          have hb2 := HT.out.pos
          rcases hrow3 with h | h
          · rw [h]; exact ⟨HR1.out, HR2.out⟩
          · exact ⟨fun e => by have := h _ e; have := HW3.out.size; omega, fun e => by have := h _ e; have := HW3.out.size; omega⟩
        have HJ3 := hid hJ3
        clear hq3 hbn3 htt htt3 hrow3 hJ3 hk3
        gi_wp2
        go_roundw
        case rel => exact ⟨k + m, pre ++ [(p, k, k + m)], by omega, by go_num, by rw [HPre.out, HU.out]; simp, HJ3.out, HBn3.out, HT3.out, by omega, HI3.out, HRW.out.1, HRW.out.2⟩
        case measure => simp [intOf]; omega
      · gi_wp2
        refine bodyPost_ret (results_none rfl _ _ _) rfl ?_
        exact ⟨⟨_, rfl⟩, .inr ⟨pre ++ [(p, k, k + m)], ⟨unitsAt s.data.toList (k + m), by rw [HPre.out, HU.out]; simp⟩, hJx3⟩⟩
    · gi_wp2
      go_end0
      have hkk : unitsAt s.data.toList k = [] := unitsAt_end _ _ (by omega)
      exact ⟨⟨_, rfl⟩, .inl ⟨pre, by rw [HPre.out, hkk, List.append_nil], HJs.out⟩⟩
end Go.Proofs.YtlfeiadgahdgoaaGreatDoor
namespace Go.Proofs.YtlfeiadgahdgoaaGreatDoor
open Go.RowKit Go.Shelf
attribute [local go_sem] Oper.semAt_some
theorem all_stops (n : Nat) (hn : 1 ≤ n) (Bn bF : Nat) (s : ByteArray) (hs : s.size ≤ 4194400) (w : World)
    (hBn : w.heap[Bn]? = some (.cells #[.string s] 9 (0, 0))) (hT : SeqAt w) (hF : bF < w.heap.size) (hBF : Bn ≠ bF) (hgF : 15 ≠ bF) (hIn : InR bF w) (hr1 : rowIn bF w ≠ some Bn) (hr2 : rowIn bF w ≠ some 15) :
    SeqStopsK Fence.wide n Tryz.prog 78 #[.pointer (some ⟨Bn, 0, none⟩)] (fun x : Int × Nat × Nat => #[unitVal x.1 x.2.1 x.2.2]) (KeepsBut bF) (fun ys => ys = unitsOf s.data.toList) (fun pre => pre <+: unitsOf s.data.toList) (unitsOf s.data.toList).length w := fun l J Jx W hW hJ _ hY h0 => by
  have hrow : rowIn bF W = rowIn bF w := rowIn_same (hW.block bF hF)
  exact all1_in n hn l Bn bF W.heap.size s hs J Jx hJ hY W ((hW.block Bn (Array.getElem?_eq_some_iff.1 hBn).1).trans hBn) (hT.later hW) (Nat.lt_of_lt_of_le hF hW.size) hBF hgF
    (fun g hg => Nat.lt_of_lt_of_le (hIn g (hrow ▸ hg)) hW.size) (by rw [hrow]; exact hr1) (by rw [hrow]; exact hr2) h0
theorem unitsF_len : ∀ (f k : Nat) (l : List UInt8), (unitsF f k l).length ≤ l.length := by
  intro f
  induction f with
  | zero => intro k l; simp [unitsF]
  | succ f ih =>
    intro k l
    cases l with
    | nil => simp [unitsF]
    | cons a l =>
      have h := ih (k + (uniOf (a :: l)).2) ((a :: l).drop (uniOf (a :: l)).2)
      have hs := uni_size a l
      rw [List.length_drop] at h
      rw [unitsF]
      simp only [List.length_cons] at h ⊢
      omega
theorem units_le (s : ByteArray) : (unitsOf s.data.toList).length ≤ s.size := by
  have := unitsF_len (s.data.toList.length - 0) 0 (s.data.toList.drop 0)
  rw [List.drop_zero, bsize] at this
  simpa [unitsOf, unitsAt] using this
theorem rowIn_boxed {bF : Nat} {W : World} {t : TypeId} {v : Value} (h : Boxed W bF t v) : rowIn bF W = v.ownBlock := by
  rw [rowIn, show W.heap[bF]? = _ from h]
  rfl
theorem KeepsBut.alloc {bF : Nat} {W : World} (hF : bF < W.heap.size) (o : Obj) : KeepsBut bF W (W.alloc o) := by
  have hrow : rowIn bF (W.alloc o) = rowIn bF W := rowIn_same (Below.heap_alloc W o bF hF)
  refine ⟨by simp, .inl hrow, fun h g hg => ?_, fun i c t z hi _ _ => ?_⟩
  · have := h g (hrow ▸ hg); simp; omega
  · rw [Below.heap_alloc W o i (Array.getElem?_eq_some_iff.1 hi).1]; exact hi
theorem KeepsBut.appended {bF : Nat} {W w1 : World} {t : TypeId} {v v' : Value} {o : Obj} (hv : Boxed W bF t v) (hv2 : Boxed (w1.setCell ⟨bF, 0, none⟩ v') bF t v') (hgrow : (W.alloc o).grownBy w1 v.ownBlock)
    (hat : v'.ownBlock = v.ownBlock ∨ v'.ownBlock = some (W.alloc o).heap.size) (hlt : ∀ g, v'.ownBlock = some g → g < w1.heap.size) : KeepsBut bF W (w1.setCell ⟨bF, 0, none⟩ v') := by
  have e1 := rowIn_boxed hv
  have e2 := rowIn_boxed hv2
  have hs := hgrow.size
  simp only [World.size_alloc] at hs
  refine ⟨by simp; omega, ?_, fun _ g hg => ?_, fun i c t' z hi hn hr => ?_⟩
  · rw [e1, e2]
    rcases hat with h | h
    · exact .inl h
    · refine .inr (fun g hg => ?_)
      rw [h] at hg
      simp at hg
      omega
  · rw [e2] at hg
    have := hlt g hg
    simpa using this
  · have hl := (Array.getElem?_eq_some_iff.1 hi).1
    rw [heap_setCell_other _ _ _ _ hn, hgrow.block i (by simp; omega) (by rw [← e1]; exact hr), Below.heap_alloc W o i hl]
    exact hi
set_option maxRecDepth 100000 in
set_option maxHeartbeats 2000000 in
theorem usplit_at (s : ByteArray) (hs : s.size ≤ 4194400) (w : World) (hT : SeqAt w) :
    Calls Tryz.prog 26 #[.string s] w fun e w' => ∃ v, e = .returned v ∧ OwnU w' w.heap.size v (unitsOf s.data.toList) ∧ v ≠ .slice none 0 0 ∧ Below w.heap.size w w' := by
  obtain ⟨i0, hi, hz0, hz1, hz2⟩ := info_parts infoUnit
  have HT := hid hT
  have hpos := hT.pos
  clear hT
  refine (callsIn_wide (n := 8)).1 ?_
  refine callsIn_of_wp_marks Tryz.func26 rfl trivial ?_ rfl
  simp only [Tryz.ntmps26, List.size_toArray, List.length_cons, List.length_nil, Nat.reduceAdd, Nat.reduceSub, Array.replicate_succ, Array.replicate_zero, List.push_toArray, List.append_toArray, List.nil_append, List.cons_append]
  gi_wp2_with (first
    | (refine ⟨trivial, ?_⟩; gi_at_call 45; refine (callsIn_wide.2 (runeCount_any s _ (by omega))).mono ?_; rintro e w1 ⟨c, hc, rfl, hb1⟩)
    | (gi_at_make; refine wpListIn_make_own _ rfl _ _ 64 rfl w.heap.size 67 i0 (.agg #[.int .i64 0, .int .i64 0, .int .i64 0]) 3 Tryz.underlying64 hi hz0 hz1 .i64 .i64 (c : Int) c rfl rfl rfl (by rw [hz2]; omega) (by unfold maxLen; omega) hb1.size ?_; intro w2 hown2 hgrow2)
    | (refine ⟨trivial, ?_⟩; gi_at_call 46; refine (all_in _ s _).mono ?_; rintro e w' ⟨rfl, rfl⟩)
    | fail)
  have hB2 : Below w.heap.size w w2 := hb1.grown hgrow2 hb1.size (fun k hk => by cases hk)
  have hs2 := hB2.size
  have hg2 : w1.heap.size < w2.heap.size := (World.ownsRow.lt hown2 _ rfl).2
  have bF := Boxed.new w2 64 (.slice (some ⟨w1.heap.size, 0, none⟩) 0 c)
  have bN := Boxed.new (w2.alloc (.cells #[.slice (some ⟨w1.heap.size, 0, none⟩) 0 c] 64)) 9 (.string s)
  rw [World.size_alloc] at bN
  have hB0 : Below w.heap.size w ((w2.alloc (.cells #[.slice (some ⟨w1.heap.size, 0, none⟩) 0 c] 64)).alloc (.cells #[.string s] 9)) := (hB2.alloc hs2 _).alloc (by simp; omega) _
  have bF0 := bF.alloc (.cells #[.string s] 9)
  have hrow0 := rowIn_boxed bF0
  have hpos2 : 15 < w2.heap.size := by omega
  have hw1 := hb1.size
  refine wpIn_rangeFunc_ownH rfl (by omega) (gf := 78) (lb := #[.pointer (some ⟨w2.heap.size + 1, 0, none⟩)]) rfl trivial (enters_of Tryz.func78 (by kernel_rfl) rfl)
    (all_stops 7 (by omega) (w2.heap.size + 1) w2.heap.size s hs _ bN (HT.out.later hB0) (by simp; omega) (by omega) (by omega)
      (fun g hg => by rw [hrow0] at hg; simp [Value.ownBlock] at hg; simp; omega) (by rw [hrow0]; simp [Value.ownBlock]; omega) (by rw [hrow0]; simp [Value.ownBlock]; omega))
    KeepsBut.trans (fun W l o o' hl ho hc _ => KeepsBut.putObj (n := w2.heap.size + 1) (by omega) W l o o' (by simp at hl; omega) ho hc) (Below.refl _ _) (fun _ => rfl)
    (fun pre W => (∃ v, Boxed W w2.heap.size 64 v ∧ W.ownsRow w.heap.size 67 3 v pre.length (cellsU pre) ∧ v ≠ .slice none 0 0) ∧ Below w.heap.size w W)
    (fun _ _ _ => False)
    (OwnFrom.and (Own.from (holdsRow_own w.heap.size w2.heap.size 64 67 3 (fun pre => pre.length) (fun pre => cellsU pre) (fun _ v => v ≠ .slice none 0 0)) _) (ownFrom_below (Nat.le_refl _) (by simp; omega)))
    (fun _ _ _ _ _ hs _ _ => hs)
    ⟨⟨_, bF0, (hown2.alloc _).alloc _, by simp⟩, hB0⟩
    (fun x a' W => ∃ Bx, W.heap[Bx]? = some (.cells #[.int .i64 x.1, .int .i64 (x.2.1 : Int), .int .i64 (x.2.2 : Int)] 67 (0, 0)) ∧ a' = { tmps := #[.string s, undef, .slice none 0 0, .pointer (some ⟨w2.heap.size, 0, none⟩), .pointer (some ⟨Bx, 0, none⟩), .string s, .int .i64 (c : Int), .slice (some ⟨w1.heap.size, 0, none⟩) 0 c, .string s, .func (.func 78) #[] #[.pointer (some ⟨w2.heap.size + 1, 0, none⟩)], .agg #[.int .i64 x.1, .int .i64 (x.2.1 : Int), .int .i64 (x.2.2 : Int)], undef, undef, undef, undef, undef], defers := [] })
    ?hAx ?assign ?body ?done ?stop
  case hAx =>
    rintro x a' _ X Y row ⟨Bx, hx, ha⟩ hg hr
    refine ⟨Bx, ?_, ha⟩
    rw [hg.block Bx (Array.getElem?_eq_some_iff.1 hx).1 (fun e => by obtain ⟨_, o, ho, hc⟩ := hr Bx e.symm; rw [hx] at ho; cases ho; simp [Obj.isCells] at hc)]
    exact hx
  case assign =>
    rintro l pre x W K ⟨⟨v, hv, hrow, hnn⟩, hB⟩ hK
    simp only [unitVal]
    gi_wp2
    exact hK _ _ ((KeepsOthers.alloc _ _).from _) (KeepsBut.alloc hv.lt _) ⟨⟨v, hv.alloc _, hrow.alloc _, hnn⟩, hB.alloc hB.size _⟩ ⟨W.heap.size, heap_alloc_new _ _, rfl⟩
  case body =>
    rintro l pre x a' W hl ⟨r, hr⟩ ⟨⟨v, hv, hrow, _⟩, hB⟩ ⟨Bx, hx, rfl⟩ hlt
    have hc := hv.cell
    obtain ⟨⟨x0, x1, x2⟩, _⟩ := row3 hx
    have hN := units_le s
    have hsz := hB.size
    gi_wp2_with (gi_at_builtin; refine wpListIn_append_own_at _ rfl _ _ 64 rfl w.heap.size 67 i0 (.agg #[.int .i64 0, .int .i64 0, .int .i64 0]) 3 24 Tryz.underlying64 hi hz0 hz1 hz2 rfl (by decide) _ _ _ rfl (hrow.alloc _) ⟨W.heap.size, 0, none⟩ 1 1 [.int .i64 x.1, .int .i64 (x.2.1 : Int), .int .i64 (x.2.2 : Int)] rfl rfl (cell3_new _ _ _ _ _) (by simp [Value.oneCell']) (by unfold maxLen; omega) (by omega) (by simp; omega) ?_; intro v' w3 hown' hgrow _ hat; obtain ⟨g', cap', rfl⟩ := ownsRow_succ hown'; obtain ⟨hv1, hv2, hr2, hk2, hb2⟩ := hv.appended (by decide) hrow hB.size (by omega) hown' hgrow; have hc1 := hv1.cell; have hf1 := hv1.frozen)
    have hlen1 : (pre ++ [x]).length = pre.length + 1 := by simp
    have hcu : cellsU (pre ++ [x]) = cellsU pre ++ [.int .i64 x.1, .int .i64 (x.2.1 : Int), .int .i64 (x.2.2 : Int)] := by rw [cellsU_append]; rfl
    exact ⟨hk2.from _, KeepsBut.appended hv hv2 hgrow hat (fun g e => (World.ownsRow.lt hown' g e).2), ⟨_, hv2, by rw [hlen1, hcu]; exact hr2, by simp⟩, hB.trans hb2⟩
  case done =>
    rintro D ys W hD rfl ⟨⟨v, hv, hrow, hnn⟩, hB⟩ hK
    have hc := hv.cell
    gi_wp2
    refine ⟨by simp, .inl ⟨_, _, rfl, run_takeDeferred hK, ?_⟩⟩
    exact ⟨_, results_tmp rfl _ _ _, v, rfl, ownsRow_putObj hrow _ hK rfl, hnn, hB.trans (belowK_b (w := w) (Nat.le_refl _) W D _ _ (by simp at hD; omega) hK rfl rfl)⟩
  case stop =>
    rintro D c pre W _ _ h _
    exact h.elim
theorem usplit_any (s : ByteArray) (hs : s.size ≤ 4194400) (w : World) (hT : SeqAt w) :
    Calls Tryz.prog 26 #[.string s] w fun e w' => ∃ v, e = .returned v ∧ OwnU w' w.heap.size v (unitsOf s.data.toList) ∧ Below w.heap.size w w' :=
  (usplit_at s hs w hT).mono fun _ _ ⟨v, h1, h2, _, h3⟩ => ⟨v, h1, h2, h3⟩
/-- The same, the answer's shape written out, of a text whose bytes are told. -/
theorem usplit_as (s : ByteArray) (l : List UInt8) (hl : s.data.toList = l) (hs : s.size ≤ 4194400) (w : World) (hT : SeqAt w) :
    Calls Tryz.prog 26 #[.string s] w fun e w' => ∃ g cap, e = .returned (.slice (some ⟨g, 0, none⟩) (unitsOf l).length cap) ∧ OwnU w' w.heap.size (.slice (some ⟨g, 0, none⟩) (unitsOf l).length cap) (unitsOf l) ∧ (unitsOf l).length ≤ cap ∧ g < w'.heap.size ∧ w.heap.size ≤ g ∧ Below w.heap.size w w' := by
  subst hl
  refine (usplit_at s hs w hT).mono ?_
  rintro e w' ⟨v, rfl, h2, h3, h4⟩
  rcases h2.2 with ⟨rfl, _⟩ | ⟨g, cap, cur, rfl, hg, hh, hcap, _⟩
  · exact absurd rfl h3
  · exact ⟨g, cap, rfl, h2, hcap, (Array.getElem?_eq_some_iff.1 hh).1, hg, h4⟩
end Go.Proofs.YtlfeiadgahdgoaaGreatDoor
