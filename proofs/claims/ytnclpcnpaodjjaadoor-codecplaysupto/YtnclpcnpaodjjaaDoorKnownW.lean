/-
  The walk of caesuralaw1.known.
-/
import Derived.Test.YtnclpcnpaodjjaaDoorNumW
namespace Go.Proofs.YtnclpcnpaodjjaaDoor
open Go.RowKit

theorem hid0 {p : Prop} (h : p) : Hid p := h
theorem toString_any {w : World} {v : Value} {l : List UInt8} (h : BytesAt w v l) : (convert 26 9 v).run Tryd.prog w = .ok (.string ⟨l.toArray⟩) w := by
  rcases h with ⟨rfl, rfl⟩ | ⟨b, off, cap, rfl, hc⟩
  · rw [run_convert_bytes_string w 26 9 5 none 0 0 Tryd.underlying26 Tryd.underlying5 Tryd.underlying9]; rfl
  · exact run_convert_bytes_back (P := Tryd.prog) w 26 9 5 ⟨b, off, none⟩ cap l Tryd.underlying26 Tryd.underlying5 Tryd.underlying9 (fun j hj => by rw [Addr.add_lit]; exact hc j hj)
def digits : ByteArray := ⟨#[49, 50, 51, 52, 53, 54, 55, 56, 57]⟩
theorem known_sum : Crc.u (Crc.more 0#32 digits.data.toList) = 3421780262 := by decide +kernel
theorem known_form : (([] : List UInt8) ++ form 9 300) ++ form 9 0 = [172, 2, 0] := by decide
theorem Wr.below {w w' : World} {B : Nat} {v : Value} {l : List UInt8} (h : Wr w B v l) (hb : Below w.heap.size w w') : Wr w' B v l :=
  h.only (Only.ofBelow hb (fun _ => False) (fun i h1 h2 => by omega)) (fun h => h) (fun _ _ h => h)
theorem wrNum_300 (B : Nat) (v : Value) (l : List UInt8) (w : World) (h : Wr w B v l) (hl : l.length + 10 ≤ 64) :
    Calls Tryd.prog 23 #[.pointer (some ⟨B, 0, none⟩), .int .i64 300] w fun e w' => e = .returned .nilIface ∧ ∃ v', Wr w' B v' (l ++ form 9 300) ∧ Only w w' (Wr.S B v) ∧ (∀ k, v'.ownBlock = some k → v.ownBlock = some k ∨ w.heap.size ≤ k) :=
  wrNum_any 300 (by omega) B v l w h hl
theorem wrNum_0 (B : Nat) (v : Value) (l : List UInt8) (w : World) (h : Wr w B v l) (hl : l.length + 10 ≤ 64) :
    Calls Tryd.prog 23 #[.pointer (some ⟨B, 0, none⟩), .int .i64 0] w fun e w' => e = .returned .nilIface ∧ ∃ v', Wr w' B v' (l ++ form 9 0) ∧ Only w w' (Wr.S B v) ∧ (∀ k, v'.ownBlock = some k → v.ownBlock = some k ∨ w.heap.size ≤ k) :=
  wrNum_any 0 (by omega) B v l w h hl
end Go.Proofs.YtnclpcnpaodjjaaDoor
