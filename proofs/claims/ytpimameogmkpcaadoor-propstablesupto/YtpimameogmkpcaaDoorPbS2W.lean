/-
  The walks of Table.Size, Table.Number, caesuralaw5.first.
-/
import Derived.Test.YtpimameogmkpcaaDoorPbS1M
import Derived.Test.YtpimameogmkpcaaDoorPbL2W
namespace Go.Proofs.YtpimameogmkpcaaDoor
open Go.RowKit Go.Shelf
theorem TabAt.slice {w : World} {lo T : Nat} {NL : List ByteArray} {ss : List Sp} {c : Array Value} {vN vB : Value} (h : TabAt w lo T NL ss c vN vB) : ∃ a cap, vB = .slice a (ord (blkOf (cls ss)) 8704).length cap ∧ w.cell? ⟨T, 8705, none⟩ = some (.slice a (ord (blkOf (cls ss)) 8704).length cap) := by
  have hc : w.cell? ⟨T, 8705, none⟩ = some vB := by rw [cell_of_row _ _ _ _ _ _ h.row]; exact h.last
  rcases h.own.2 with ⟨rfl, hn⟩ | ⟨g, cap, cur, rfl, _⟩
  · exact ⟨none, 0, by rw [hn], by rw [hc, hn]⟩
  · exact ⟨_, cap, rfl, hc⟩
set_option maxRecDepth 10000 in
theorem size_any (w : World) (lo T : Nat) (NL : List ByteArray) (ss : List Sp) (c : Array Value) (vN vB : Value) (h : TabAt w lo T NL ss c vN vB) :
    Calls Tryd.prog 9 #[.pointer (some ⟨T, 0, none⟩)] w fun e w' => e = .returned (.int .i64 ((ord (blkOf (cls ss)) 8704).length : Int)) ∧ w' = w := by
  obtain ⟨a, cap, _, hc⟩ := h.slice
  clear h
  generalize (ord (blkOf (cls ss)) 8704).length = n at *
  go_enter Tryd.func9, Tryd.ntmps9
  go_wp2
  go_ret
  exact ⟨rfl, rfl⟩
set_option maxRecDepth 10000 in
theorem number_name (w : World) (lo T : Nat) (NL : List ByteArray) (ss : List Sp) (c : Array Value) (vN vB : Value) (x : ByteArray) (hl : NL.length ≤ 1000) (h : TabAt w lo T NL ss c vN vB) :
    Calls Tryd.prog 25 #[.pointer (some ⟨T, 0, none⟩), .string x] w fun e w' => e = .returned (.int .i64 (Lib.idxOfS NL x)) ∧ w' = w := by
  obtain ⟨a, cap, e1, hs, _⟩ := h.names.sa
  have c0 : w.cell? ⟨T, 0, none⟩ = some (.slice a NL.length cap) := by rw [cell_of_row _ _ _ _ _ _ h.row, h.zero, e1]
  have HC := hid0 (index_any NL a cap x w (by omega) hs)
  clear h hs e1
  go_enter Tryd.func25, Tryd.ntmps25
  go_wp2_with (go_at_call 37; refine HC.out.mono ?_; rintro e w1 ⟨rfl, rfl⟩)
  go_ret
  exact ⟨rfl, rfl⟩
theorem cls_65 : cls [(65, 90, 1)] 65 = 2 := by decide
theorem cls_91 : cls [(65, 90, 1)] 91 = 0 := by decide
theorem cls_m1 : cls [(65, 90, 1)] (-1) = 0 := by decide
theorem idx_A : Lib.idxOfS [otherB, bA, bB] bA = 1 := by decide
set_option maxRecDepth 10000 in
set_option maxHeartbeats 800000 in
theorem first_any (A : Nat → Addr) (w : World) (he : Sent5 w A) :
    Calls Tryd.prog 6 #[] w fun e w' => e = .returned (.bool true) ∧ Below w.heap.size w w' := by
  have HNW := hid0 (new_ab A w he)
  clear he
  go_enter Tryd.func6, Tryd.ntmps6
  have mk : Hid True := trivial
  go_wp2_with (first | (clear mk; go_at_call 7; refine HNW.out.mono ?_; rintro e w1 ⟨T, c, vN, vB, rfl, ht, hb⟩; have HT := hid0 ht; have HB := hid0 hb; clear ht hb HNW) | fail)
  have HC : Hid (∀ W p, Below w1.heap.size w1 W → Calls Tryd.prog 10 #[.pointer (some ⟨T, 0, none⟩), .int .i64 p] W fun e w' => e = .returned (.int .i64 (cls [(65, 90, 1)] p)) ∧ Below w1.heap.size w1 w') := hid0 (fun W p hW =>
    (class_any 2 W (w.heap.size + 2) T _ _ c vN vB p rise_ab (by decide) (by decide) (HT.out.below hW)).mono (fun e w' h => ⟨h.1, Below.later hW h.2⟩))
  have HS : Hid (∀ W, Below w1.heap.size w1 W → Calls Tryd.prog 9 #[.pointer (some ⟨T, 0, none⟩)] W fun e w' => e = .returned (.int .i64 2) ∧ w' = W) := hid0 (fun W hW => (size_any W (w.heap.size + 2) T _ _ c vN vB (HT.out.below hW)).mono (fun e w' h => ⟨by rw [h.1, size_ab]; rfl, h.2⟩))
  have HN : Hid (∀ W, Below w1.heap.size w1 W → Calls Tryd.prog 25 #[.pointer (some ⟨T, 0, none⟩), .string bA] W fun e w' => e = .returned (.int .i64 1) ∧ w' = W) := hid0 (fun W hW => (number_name W (w.heap.size + 2) T _ _ c vN vB bA (by decide) (HT.out.below hW)).mono (fun e w' h => ⟨by rw [h.1, idx_A], h.2⟩))
  have HB1 : Hid (Below w1.heap.size w1 w1) := hid0 (Below.refl _ _)
  have q1 := cls_65
  have q2 := cls_91
  have q3 := cls_m1
  have M1 : Hid True := trivial
  go_wp2_with (first
    | (clear M1; go_at_call 10; refine (HC.out _ 65 HB1.out).mono ?_; rintro e w2 ⟨rfl, h2⟩; have HB2 := hid0 h2; clear h2; have M2 : Hid True := trivial)
    | (clear M2; go_at_call 10; refine (HC.out _ 91 HB2.out).mono ?_; rintro e w3 ⟨rfl, h3⟩; have HB3 := hid0 h3; clear h3; have M3 : Hid True := trivial)
    | (clear M3; go_at_call 10; refine (HC.out _ (-1) HB3.out).mono ?_; rintro e w4 ⟨rfl, h4⟩; have HB4 := hid0 h4; clear h4)
    | (go_at_call 25; refine (HN.out _ HB4.out).mono ?_; rintro e w5 ⟨rfl, rfl⟩)
    | (go_at_call 9; refine (HS.out _ HB4.out).mono ?_; rintro e w6 ⟨rfl, rfl⟩))
  go_ret
  exact ⟨rfl, Below.later HB.out HB4.out⟩
end Go.Proofs.YtpimameogmkpcaaDoor
