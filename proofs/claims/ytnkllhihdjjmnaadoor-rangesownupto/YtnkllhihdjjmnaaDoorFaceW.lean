/-
  The walks of ranges.Normal, Union, Inter, Minus, Not.
-/
import Derived.Test.YtnkllhihdjjmnaaDoorCombW
namespace Go.Proofs.YtnkllhihdjjmnaaDoor
open Go.RowKit
theorem Answered.trans {w w1 w2 : World} {A0 : Addr} {ok ok' : Bool} {W W' : Int → Bool} {e : Ending} (h : Answered w1 w2 A0 ok W e) (hb : Below w.heap.size w w1) (ho : ok = ok') (hW : ∀ p, W p = W' p) : Answered w w2 A0 ok' W' e := by
  obtain ⟨v, l, h1, h2, h3, h4, h5, h6⟩ := h
  subst ho
  exact ⟨v, l, h1, h2.base hb.size, h3, fun h p => (h4 h p).trans (hW p), h5, hb.trans (h6.mono hb.size)⟩
theorem cellE_later {w w' : World} {A0 : Addr} (hE : w.cell? ⟨0, 0, none⟩ = some (errArg A0)) (hb : Below w.heap.size w w') : w'.cell? ⟨0, 0, none⟩ = some (errArg A0) :=
  (hb.cell (p := ⟨0, 0, none⟩) (World.block_lt_of_cell? w _ hE)).trans hE
set_option maxRecDepth 10000 in
set_option maxHeartbeats 400000 in
theorem normal_any (l : List (Int × Int)) (hl : l.length ≤ 50000000) (a : Option Addr) (cap : Nat) (A0 : Addr) (w : World) (hr : RA w a l) (hE : w.cell? ⟨0, 0, none⟩ = some (errArg A0)) :
    Calls Tryd.prog 11 #[.slice a l.length cap] w fun e w' => Answered w w' A0 (mayL l) (pts l) e := by
  have hC := combine_any _ _ either_chooses rfl l [] hl (by simp) a none cap 0 A0 w hr (RA.nil _ _) hE
  rw [List.length_nil] at hC
  have HC := hidE hC
  clear hr hE hC
  go_enter Tryd.func11, Tryd.ntmps11
  go_wp2_with (go_at_call 27; refine HC.out.mono ?_; rintro e w1 ⟨v, m, rfl, h2⟩)
  go_returns
  exact Answered.trans ⟨v, m, rfl, h2⟩ (Below.refl _ _) (by rw [show mayL [] = true from rfl, Bool.and_true]) (fun p => by simp [pts_nil])
set_option maxRecDepth 10000 in
set_option maxHeartbeats 400000 in
theorem union_any (la lb : List (Int × Int)) (hl1 : la.length ≤ 50000000) (hl2 : lb.length ≤ 50000000) (a1 a2 : Option Addr) (cap1 cap2 : Nat) (A0 : Addr) (w : World) (hr1 : RA w a1 la) (hr2 : RA w a2 lb) (hE : w.cell? ⟨0, 0, none⟩ = some (errArg A0)) :
    Calls Tryd.prog 12 #[.slice a1 la.length cap1, .slice a2 lb.length cap2] w fun e w' => Answered w w' A0 (mayL la && mayL lb) (fun p => pts la p || pts lb p) e := by
  have HC := hidE (combine_any _ _ either_chooses rfl la lb hl1 hl2 a1 a2 cap1 cap2 A0 w hr1 hr2 hE)
  clear hr1 hr2 hE
  go_enter Tryd.func12, Tryd.ntmps12
  go_wp2_with (go_at_call 27; refine HC.out.mono ?_; rintro e w1 ⟨v, m, rfl, h2⟩)
  go_returns
  exact ⟨v, m, rfl, h2⟩
set_option maxRecDepth 10000 in
set_option maxHeartbeats 400000 in
theorem inter_any (la lb : List (Int × Int)) (hl1 : la.length ≤ 50000000) (hl2 : lb.length ≤ 50000000) (a1 a2 : Option Addr) (cap1 cap2 : Nat) (A0 : Addr) (w : World) (hr1 : RA w a1 la) (hr2 : RA w a2 lb) (hE : w.cell? ⟨0, 0, none⟩ = some (errArg A0)) :
    Calls Tryd.prog 13 #[.slice a1 la.length cap1, .slice a2 lb.length cap2] w fun e w' => Answered w w' A0 (mayL la && mayL lb) (fun p => pts la p && pts lb p) e := by
  have HC := hidE (combine_any _ _ both_chooses rfl la lb hl1 hl2 a1 a2 cap1 cap2 A0 w hr1 hr2 hE)
  clear hr1 hr2 hE
  go_enter Tryd.func13, Tryd.ntmps13
  go_wp2_with (go_at_call 27; refine HC.out.mono ?_; rintro e w1 ⟨v, m, rfl, h2⟩)
  go_returns
  exact ⟨v, m, rfl, h2⟩
set_option maxRecDepth 10000 in
set_option maxHeartbeats 400000 in
theorem minus_any (la lb : List (Int × Int)) (hl1 : la.length ≤ 50000000) (hl2 : lb.length ≤ 50000000) (a1 a2 : Option Addr) (cap1 cap2 : Nat) (A0 : Addr) (w : World) (hr1 : RA w a1 la) (hr2 : RA w a2 lb) (hE : w.cell? ⟨0, 0, none⟩ = some (errArg A0)) :
    Calls Tryd.prog 15 #[.slice a1 la.length cap1, .slice a2 lb.length cap2] w fun e w' => Answered w w' A0 (mayL la && mayL lb) (fun p => pts la p && !pts lb p) e := by
  have HC := hidE (combine_any _ _ alone_chooses rfl la lb hl1 hl2 a1 a2 cap1 cap2 A0 w hr1 hr2 hE)
  clear hr1 hr2 hE
  go_enter Tryd.func15, Tryd.ntmps15
  go_wp2_with (go_at_call 27; refine HC.out.mono ?_; rintro e w1 ⟨v, m, rfl, h2⟩)
  go_returns
  exact ⟨v, m, rfl, h2⟩
def inAll (p : Int) : Bool := decide (0 ≤ p) && decide (p ≤ 1114111)
set_option maxRecDepth 10000 in
set_option maxHeartbeats 400000 in
theorem not_any (l : List (Int × Int)) (hl : l.length ≤ 50000000) (a : Option Addr) (cap : Nat) (A0 : Addr) (w : World) (hr : RA w a l) (hE : w.cell? ⟨0, 0, none⟩ = some (errArg A0)) :
    Calls Tryd.prog 14 #[.slice a l.length cap] w fun e w' => Answered w w' A0 (mayL l) (fun p => inAll p && !pts l p) e := by
  have HC := hidE (fun w' (h : Below w.heap.size w w') (hr' : RA w' (some ⟨w.heap.size, 0, none⟩) [(0, 1114111)]) => combine_any _ _ alone_chooses rfl [(0, 1114111)] l (by simp) hl (some ⟨w.heap.size, 0, none⟩) a 1 cap A0 w' hr' (hr.later h) (cellE_later hE h))
  clear hr hE
  go_enter Tryd.func14, Tryd.ntmps14
  go_wp2_with (go_at_call 27; refine (HC.out _ ((Below.refl _ w).alloc (Nat.le_refl _) _) ⟨fun k hk => ⟨w.heap.size, 0, rfl, ?_⟩⟩).mono ?_)
  · obtain rfl : k = 0 := by simpa using hk
    simp
  · rintro e w1 ⟨v, m, rfl, h2⟩
    go_wp2
    go_returns
    exact Answered.trans ⟨v, m, rfl, h2⟩ ((Below.refl _ w).alloc (Nat.le_refl _) _) (by simp [mayL, mayR]) (fun p => by simp [pts, hasR, inAll])
end Go.Proofs.YtnkllhihdjjmnaaDoor
