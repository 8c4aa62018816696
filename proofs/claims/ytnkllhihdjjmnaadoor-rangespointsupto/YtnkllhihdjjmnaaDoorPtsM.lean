/-
  What RangesPoints leans on.
-/
import Derived.Test.YtnkllhihdjjmnaaDoorAlgM
import Derived.Test.YtnkllhihdjjmnaaDoorLEdgeW
namespace Go.Proofs.YtnkllhihdjjmnaaDoor
open Go.RowKit
theorem Answered.any {w w' : World} {A0 : Addr} {ok : Bool} {W : Int → Bool} {e : Ending} (h : Answered w w' A0 ok W e) : ∃ a cap l, e = .returned (.tuple #[.slice a l.length cap, errVal A0 ok]) ∧ RA w' a l ∧ NormF 0 l ∧ (ok = true → ∀ p, pts l p = W p) ∧ Below w.heap.size w w' := by
  obtain ⟨v, l, rfl, h2, h3, h4, _, h6⟩ := h
  obtain ⟨a, cap, rfl, hra⟩ := h2.ra
  exact ⟨a, cap, l, rfl, hra, h3, h4, h6⟩
theorem in_b (l : List (Int × Int)) (a : Option Addr) (cap : Nat) (n : Int) (hl : l.length ≤ 140737488355328) (w : World) (ha : RA w a l) (x : Bool) (hx : pts l n = x) :
    Calls Tryd.prog 19 #[.slice a l.length cap, .int .i64 n] w fun e w' => e = .returned (.bool x) ∧ Below w.heap.size w w' :=
  (in_any l a cap n hl w ha).mono fun e w' ⟨h1, q, h2⟩ => ⟨by rw [h1, hx], by rw [h2]; exact drewN_below _ _⟩
theorem normal_b (l : List (Int × Int)) (a : Option Addr) (cap : Nat) (hn : NormF 0 l) (w : World) (ha : RA w a l) :
    Calls Tryd.prog 17 #[.slice a l.length cap] w fun e w' => e = .returned (.bool true) ∧ Below w.heap.size w w' :=
  (normalLaw_any l a cap hn w ha).mono fun e w' ⟨h1, q, h2⟩ => ⟨h1, by rw [h2]; exact drewN_below _ _⟩
end Go.Proofs.YtnkllhihdjjmnaaDoor
