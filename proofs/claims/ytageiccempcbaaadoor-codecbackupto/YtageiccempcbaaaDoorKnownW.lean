/-
  The walk of caesuralaw1.known.
-/
import Derived.Test.YtageiccempcbaaaDoorNumW
namespace Go.Proofs.YtageiccempcbaaaDoor
open Go.RowKit

theorem hid0 {p : Prop} (h : p) : Hid p := h
theorem toString_any {w : World} {v : Value} {l : List UInt8} (h : BytesAt w v l) : (convert 25 9 v).run Tryd.prog w = .ok (.string ⟨l.toArray⟩) w := by
  rcases h with ⟨rfl, rfl⟩ | ⟨b, off, cap, rfl, hc⟩
  · rw [run_convert_bytes_string w 25 9 5 none 0 0 Tryd.underlying25 Tryd.underlying5 Tryd.underlying9]; rfl
  · exact run_convert_bytes_back (P := Tryd.prog) w 25 9 5 ⟨b, off, none⟩ cap l Tryd.underlying25 Tryd.underlying5 Tryd.underlying9 (fun j hj => by rw [Addr.add_lit]; exact hc j hj)
def digits : ByteArray := ⟨#[49, 50, 51, 52, 53, 54, 55, 56, 57]⟩
theorem known_sum : Crc.u (Crc.more 0#32 digits.data.toList) = 3421780262 := by decide +kernel
theorem known_form : (([] : List UInt8) ++ form 9 300) ++ form 9 0 = [172, 2, 0] := by decide
theorem Wr.below {w w' : World} {B : Nat} {v : Value} {l : List UInt8} (h : Wr w B v l) (hb : Below w.heap.size w w') : Wr w' B v l :=
  h.only (Only.ofBelow hb (fun _ => False) (fun i h1 h2 => by omega)) (fun h => h) (fun _ _ h => h)
theorem known_crc (v : Value) (w : World) (ht : TabAt w) (hv : BytesAt w v digits.data.toList) :
    Calls Tryd.prog 10 #[v] w fun e w' => e = .returned (.int .u32 3421780262) ∧ w' = w := by
  have h := crc_any digits.data.toList v w (by decide) ht hv
  rw [known_sum] at h
  exact h
theorem wrNum_300 (B : Nat) (v : Value) (l : List UInt8) (w : World) (h : Wr w B v l) (hl : l.length + 10 ≤ 64) :
    Calls Tryd.prog 23 #[.pointer (some ⟨B, 0, none⟩), .int .i64 300] w fun e w' => e = .returned .nilIface ∧ ∃ v', Wr w' B v' (l ++ form 9 300) ∧ Only w w' (Wr.S B v) ∧ (∀ k, v'.ownBlock = some k → v.ownBlock = some k ∨ w.heap.size ≤ k) :=
  wrNum_any 300 (by omega) B v l w h hl
theorem wrNum_0 (B : Nat) (v : Value) (l : List UInt8) (w : World) (h : Wr w B v l) (hl : l.length + 10 ≤ 64) :
    Calls Tryd.prog 23 #[.pointer (some ⟨B, 0, none⟩), .int .i64 0] w fun e w' => e = .returned .nilIface ∧ ∃ v', Wr w' B v' (l ++ form 9 0) ∧ Only w w' (Wr.S B v) ∧ (∀ k, v'.ownBlock = some k → v.ownBlock = some k ∨ w.heap.size ≤ k) :=
  wrNum_any 0 (by omega) B v l w h hl
set_option maxRecDepth 10000 in
set_option maxHeartbeats 800000 in
theorem known_any (w : World) (ht : TabAt w) :
    Calls Tryd.prog 17 #[] w fun e w' => e = .returned (.bool true) ∧ Below w.heap.size w w' := by
  have HT : Hid (TabAt w) := ht
  have hpos := ht.pos
  clear ht
  have hD : ∀ W, Calls Tryd.prog 13 #[.string ⟨#[49, 50, 51, 52, 53, 54, 55, 56, 57]⟩] W fun e w' => ∃ v, e = .returned v ∧ Own w' W.heap.size v digits.data.toList ∧ Below W.heap.size W w' := fun W =>
    kitBytes_any digits W W.heap.size (by decide) (Nat.le_refl _)
  go_enter Tryd.func17, Tryd.ntmps17
  go_wp2_with (first
    | (go_at_call 20; refine (newWriter_any _).mono ?_; rintro e w1 ⟨rfl, hw1⟩; have hr1 := wr_new w; rw [← hw1] at hr1; have hb1 : Below w.heap.size w w1 := (by rw [hw1]; exact alloc_below w _); clear hw1; have HR1 : Hid (Wr w1 w.heap.size (.slice none 0 0) []) := hr1; clear hr1)
    | (go_at_call 13; refine (hD _).mono ?_; rintro e w2 ⟨v2, rfl, ho2, hb2⟩; have HO2 : Hid (Own w2 w1.heap.size v2 digits.data.toList) := ho2; have HR2 : Hid (Wr w2 w.heap.size (.slice none 0 0) []) := HR1.out.below hb2; have HB2 : Hid (Below w.heap.size w w2) := hb1.trans (hb2.mono hb1.size); clear ho2 hb2 hb1)
    | (go_at_call 10; refine (known_crc _ _ (by exact HT.out.below HB2.out hpos) (by exact HO2.out.bytesAt)).mono ?_; rintro e w3 ⟨rfl, rfl⟩)
    | (go_at_call 23; have hq := HR2.out; clear HR2; refine (wrNum_300 _ _ _ _ hq (by decide)).mono ?_; clear hq; rintro e w4 ⟨rfl, v4, hr4, ho4, hn4⟩; have HR4 : Hid (Wr w4 w.heap.size v4 ([] ++ form 9 300)) := hr4; have HO4 : Hid (Only w3 w4 (Wr.S w.heap.size (.slice none 0 0))) := ho4; have HN4 : Hid (∀ k, v4.ownBlock = some k → Value.ownBlock (.slice none 0 0) = some k ∨ w3.heap.size ≤ k) := hn4; clear hr4 ho4 hn4)
    | (go_at_call 23; have hq := HR4.out; clear HR4; refine (wrNum_0 _ _ _ _ hq (by decide)).mono ?_; clear hq; rintro e w5 ⟨rfl, v5, hr5, ho5, hn5⟩; have HR5 : Hid (Wr w5 w.heap.size v5 (([] ++ form 9 300) ++ form 9 0)) := hr5; have HO5 : Hid (Only w4 w5 (Wr.S w.heap.size v4)) := ho5; clear hr5 ho5 hn5)
    | (go_at_call 24; refine (wrBytes_any _ _ _ _ (by exact HR5.out) (by decide)).mono ?_; rintro e w6 ⟨v6, rfl, ho6, hb6⟩; rw [known_form] at ho6; have hconv := toString_any ho6.bytesAt; clear ho6)
    | fail)
  go_ret
  refine ⟨rfl, ?_⟩
  have b3 := HB2.out
  have b4 : Below w.heap.size w3 w4 := HO4.out.below b3.size (fun i hi => by rcases hi with rfl | hi; exact Nat.le_refl _; simp [Value.ownBlock] at hi)
  have b5 : Below w.heap.size w4 w5 := HO5.out.below (Nat.le_trans b3.size b4.size) (fun i hi => by
    rcases hi with rfl | hi
    · exact Nat.le_refl _
    · rcases HN4.out i hi with h | h
      · simp [Value.ownBlock] at h
      · exact Nat.le_trans b3.size h)
  have b35 := b3.trans (b4.trans b5)
  exact b35.trans (hb6.mono b35.size)
end Go.Proofs.YtageiccempcbaaaDoor
