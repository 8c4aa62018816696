/-
  Cases in memory; the document's Print (stage 23).
-/
import Derived.Test.YtcbepmjojppokaaGreatDoorTpEW
import Derived.Test.YtcbepmjojppokaaGreatDoorTpFM
namespace Go.Proofs.YtcbepmjojppokaaGreatDoor.Tp
open Go.RowKit Go.Shelf
/-- Cases in memory. -/
structure CsA (w : World) (a : Option Addr) (C : List Cs) : Prop where
  at' : ∀ k (hk : k < C.length), ∃ (b off : Nat) (aP aB : Option Addr) (cP cB : Nat), a = some ⟨b, off, none⟩ ∧ b < w.heap.size ∧ w.cell? ⟨b, off + k * 2, none⟩ = some (.slice aP C[k].1.length cP) ∧ w.cell? ⟨b, off + k * 2 + 1, none⟩ = some (.slice aB C[k].2.length cB) ∧ IA w aP C[k].1 ∧ IA w aB C[k].2
theorem CsA.past {w w' : World} {a : Option Addr} {C : List Cs} (h : CsA w a C) (hb : Below w.heap.size w w') : CsA w' a C := ⟨fun k hk => by
  obtain ⟨b, off, aP, aB, cP, cB, e, hl, h1, h2, h3, h4⟩ := h.at' k hk
  exact ⟨b, off, aP, aB, cP, cB, e, Nat.lt_of_lt_of_le hl hb.size, (hb.cell (p := ⟨b, off + k * 2, none⟩) hl).trans h1, (hb.cell (p := ⟨b, off + k * 2 + 1, none⟩) hl).trans h2, h3.past hb, h4.past hb⟩⟩
theorem CsA.get {w : World} {a : Option Addr} {C : List Cs} (h : CsA w a C) (k : Nat) (hk : k < C.length) : ∃ (P B : List Int) (b off : Nat) (aP aB : Option Addr) (cP cB : Nat), C[k] = (P, B) ∧ a = some ⟨b, off, none⟩ ∧ b < w.heap.size ∧ w.cell? ⟨b, off + k * 2, none⟩ = some (.slice aP P.length cP) ∧ w.cell? ⟨b, off + k * 2 + 1, none⟩ = some (.slice aB B.length cB) ∧ IA w aP P ∧ IA w aB B := by
  obtain ⟨b, off, aP, aB, cP, cB, e, hl, h1, h2, h3, h4⟩ := h.at' k hk
  exact ⟨_, _, b, off, aP, aB, cP, cB, rfl, e, hl, h1, h2, h3, h4⟩
end Go.Proofs.YtcbepmjojppokaaGreatDoor.Tp
