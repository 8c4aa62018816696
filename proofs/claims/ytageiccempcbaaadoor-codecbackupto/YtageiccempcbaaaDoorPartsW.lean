/-
  The walk of caesuralaw1.CodecParts.
-/
import Derived.Test.YtageiccempcbaaaDoorKnownW
import Derived.Deep.RegionHeld3
namespace Go.Proofs.YtageiccempcbaaaDoor
open Go.RowKit
/-- The boxed parameter's three cells, later on. -/
theorem box3 {w w2 : World} {a b c : Value} {t : TypeId} (h : Below (w.heap.size + 1) (w.alloc (.cells #[a, b, c] t)) w2) :
    w2.cell? ⟨w.heap.size, 0, none⟩ = some a ∧ w2.cell? ⟨w.heap.size, 1, none⟩ = some b ∧ w2.cell? ⟨w.heap.size, 2, none⟩ = some c :=
  ⟨(h.cell (p := ⟨w.heap.size, 0, none⟩) (by simp)).trans (by simp), (h.cell (p := ⟨w.heap.size, 1, none⟩) (by simp)).trans (by simp), (h.cell (p := ⟨w.heap.size, 2, none⟩) (by simp)).trans (by simp)⟩
theorem box3_keep {w w2 : World} {n B : Nat} {a b c : Value} (h : Below B w w2) (hB : n < B) (hs : w.cell? ⟨n, 0, none⟩ = some a ∧ w.cell? ⟨n, 1, none⟩ = some b ∧ w.cell? ⟨n, 2, none⟩ = some c) :
    w2.cell? ⟨n, 0, none⟩ = some a ∧ w2.cell? ⟨n, 1, none⟩ = some b ∧ w2.cell? ⟨n, 2, none⟩ = some c :=
  ⟨(h.cell (p := ⟨n, 0, none⟩) hB).trans hs.1, (h.cell (p := ⟨n, 1, none⟩) hB).trans hs.2.1, (h.cell (p := ⟨n, 2, none⟩) hB).trans hs.2.2⟩
/-- All that the law needs of a later world. -/
structure Later (w : World) (n : Nat) (a b c : Value) (w2 : World) : Prop where
  bel : Below w.heap.size w w2
  box : w2.cell? ⟨n, 0, none⟩ = some a ∧ w2.cell? ⟨n, 1, none⟩ = some b ∧ w2.cell? ⟨n, 2, none⟩ = some c
  lt : n < w2.heap.size
  tab : TabAt w2
theorem Later.next {w w2 w3 : World} {n : Nat} {a b c : Value} (h : Later w n a b c w2) (hb : Below w2.heap.size w2 w3) : Later w n a b c w3 :=
  ⟨h.bel.trans (hb.mono h.bel.size), box3_keep hb h.lt h.box, Nat.lt_of_lt_of_le h.lt hb.size, h.tab.below hb h.tab.pos⟩
theorem Later.start {w : World} {a b c : Value} {t : TypeId} (ht : TabAt w) : Later w w.heap.size a b c (w.alloc (.cells #[a, b, c] t)) :=
  ⟨alloc_below w _, box3 (Below.refl _ _), by simp, ht.below (alloc_below w _) ht.pos⟩
theorem Later.drew {w w2 : World} {n : Nat} {a b c : Value} (h : Later w n a b c w2) : Later w n a b c w2.drew := ⟨h.bel.drew, h.box, h.lt, h.tab⟩
theorem Later.drewN {w w2 : World} {n : Nat} {a b c : Value} (h : Later w n a b c w2) (k : Nat) : Later w n a b c (w2.drewN k) := ⟨below_drewN h.bel k, h.box, h.lt, h.tab⟩
theorem cat_list (A B : ByteArray) : (A ++ B).data.toList = A.data.toList ++ B.data.toList := by simp
set_option maxRecDepth 10000 in
set_option maxHeartbeats 1600000 in
theorem parts_walk (A B : ByteArray) (sum : BitVec 32) (w : World) (hs : A.size + B.size ≤ 1048576) (ht : TabAt w) :
    Calls Tryd.prog 4 #[.agg #[.string A, .string B, .int .u32 (Crc.u sum)]] w fun e w' => e = .returned (.bool true) ∧ Below w.heap.size w w' := by
  have hcat : ∀ w, (Op.stringOp .add A B).run Tryd.prog w = .ok (.string (A ++ B)) w := fun w => run_string_add_sum w A B (by omega)
  have HL1 : Hid (Later w w.heap.size (.string A) (.string B) (.int .u32 (Crc.u sum)) (w.alloc (.cells #[.string A, .string B, .int .u32 (Crc.u sum)] 33))) := Later.start ht
  clear ht
  go_enter Tryd.func4, Tryd.ntmps4
  go_wp2_with (first
    | (go_at_call 17; have hq := HL1.out; clear HL1; refine (known_any _ hq.tab).mono ?_; rintro e w2 ⟨rfl, hb2⟩; have HL2 : Hid (Later w w.heap.size (.string A) (.string B) (.int .u32 (Crc.u sum)) w2) := hq.next hb2; obtain ⟨c0, c1, c2⟩ := HL2.out.box; clear hq hb2)
    | (go_at_call 13; have hq := HL2.out; clear HL2; refine (kitBytes_any (A ++ B) _ _ (by rw [ByteArray.size_append]; omega) (Nat.le_refl _)).mono ?_; rintro e w3 ⟨v3, rfl, ho3, hb3⟩; have HL3 : Hid (Later w w.heap.size (.string A) (.string B) (.int .u32 (Crc.u sum)) w3) := hq.next hb3; have HO3 : Hid (BytesAt w3 v3 (A.data.toList ++ B.data.toList)) := (by have := ho3.bytesAt; rw [cat_list] at this; exact this); obtain ⟨d0, d1, d2⟩ := HL3.out.box; clear hq hb3 ho3)
    | (go_at_call 10; have hq := HO3.out; clear HO3; refine (crc_any (A.data.toList ++ B.data.toList) _ _ (by simp; omega) HL3.out.tab hq).mono ?_; rintro e w4 ⟨rfl, rfl⟩)
    | (go_at_call 13; have hq := HL3.out; clear HL3; refine (kitBytes_any A _ _ (by omega) (Nat.le_refl _)).mono ?_; rintro e w5 ⟨v5, rfl, ho5, hb5⟩; have HL5 : Hid (Later w w.heap.size (.string A) (.string B) (.int .u32 (Crc.u sum)) w5) := hq.next hb5; have HO5 : Hid (BytesAt w5 v5 A.data.toList) := ho5.bytesAt; obtain ⟨e0, e1, e2⟩ := HL5.out.box; clear hq hb5 ho5)
    | (go_at_call 10; have hq := HO5.out; clear HO5; refine (crc_any A.data.toList _ _ (by simp; omega) HL5.out.tab hq).mono ?_; rintro e w6 ⟨rfl, rfl⟩)
    | fail)
  clear c0 c1 c2 d0 d1 d2
  have HD : Hid (Later w w.heap.size (.string A) (.string B) (.int .u32 (Crc.u sum)) w6.drew) := HL5.out.drew
  clear HL5
  go_region_held3 (fun w' => w'.cell? ⟨w.heap.size, 0, none⟩ = some (.string A) ∧ w'.cell? ⟨w.heap.size, 1, none⟩ = some (.string B) ∧ w'.cell? ⟨w.heap.size, 2, none⟩ = some (.int .u32 (Crc.u sum))) (first | go_keep | exact HL7.out.box | exact HL9.out.box)
    (first
    | (go_at_call 13; have hq := HD.out; clear HD; refine (kitBytes_any B _ _ (by omega) (Nat.le_refl _)).mono ?_; rintro e w7 ⟨v7, rfl, ho7, hb7⟩; have HL7 : Hid (Later w w.heap.size (.string A) (.string B) (.int .u32 (Crc.u sum)) w7) := hq.next hb7; have HO7 : Hid (BytesAt w7 v7 B.data.toList) := ho7.bytesAt; clear hq hb7 ho7)
    | (go_at_call 11; have hq := HO7.out; clear HO7; have hm := crcMore_any (Crc.more 0#32 A.data.toList) B.data.toList _ _ (by simp; omega) HL7.out.tab hq; rw [← Crc.more_append] at hm; refine hm.mono ?_; clear hm hq; rintro e w8 ⟨rfl, rfl⟩)
    | (go_at_call 13; have hq := HL7.out; clear HL7; refine (kitBytes_any A _ _ (by omega) (Nat.le_refl _)).mono ?_; rintro e w9 ⟨v9, rfl, ho9, hb9⟩; have HL9 : Hid (Later w w.heap.size (.string A) (.string B) (.int .u32 (Crc.u sum)) w9) := hq.next hb9; have HO9 : Hid (BytesAt w9 v9 A.data.toList) := ho9.bytesAt; clear hq hb9 ho9)
    | (go_at_call 11; have hq := HO9.out; clear HO9; have hm := crcMore_any 0#32 A.data.toList _ _ (by simp; omega) HL9.out.tab hq; rw [show Crc.u 0#32 = 0 from rfl] at hm; refine hm.mono ?_; clear hm hq; rintro e w10 ⟨rfl, rfl⟩)
    | (go_at_call 11; have hm := crcMore_none sum; have hq := HL9.out; rw [Crc.more_nil] at hm; refine (hm _).mono ?_; clear hm hq; rintro e w11 ⟨rfl, rfl⟩))
  go_wp2
  go_ret
  exact ⟨rfl, HL9.out.bel⟩
end Go.Proofs.YtageiccempcbaaaDoor
