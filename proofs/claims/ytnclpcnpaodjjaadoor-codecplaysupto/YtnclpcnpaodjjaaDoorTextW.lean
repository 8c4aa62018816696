/-
  The walks of (*codec.Writer).Text and (*codec.Reader).Text.
-/
import Derived.Test.YtnclpcnpaodjjaaDoorBigW
import Derived.Test.YtnclpcnpaodjjaaDoorRdW
namespace Go.Proofs.YtnclpcnpaodjjaaDoor
open Go.RowKit
theorem writeString_gen (s : ByteArray) (B : Nat) (v : Value) (L : List UInt8) (w : World) (h : Wr w B v L) (hl : 1 ≤ L.length) (hb : L.length + s.size ≤ 536870912) :
    Calls Tryd.prog 30 #[.pointer (some ⟨B, 0, none⟩), .string s] w fun e w' => e = .returned (.tuple #[.int .i64 s.size, .nilIface]) ∧ ∃ v', Wr w' B v' (L ++ s.data.toList) ∧ Only w w' (Wr.S B v) ∧ (∀ k, v'.ownBlock = some k → v.ownBlock = some k ∨ w.heap.size ≤ k) := by
  have h0 := h
  rcases h.own.2 with ⟨rfl, hn⟩ | ⟨g, cap, cur, rfl, _, hh, hnc, hcm, hcs, htake⟩
  · omega
  · have h64 := h.room _ _ _ rfl
    rw [Nat.mul_one] at htake hcs
    have hR : Roomy w B g cap cur L 0 := ⟨h.blk, hh, hcs, htake, by omega, h64, hcm⟩
    by_cases hz : s.size = 0
    · refine (writeString_none s B g cap cur L w hR hz).mono ?_
      rintro e w' ⟨rfl, rfl⟩
      have hsl : s.data.toList = [] := List.length_eq_zero_iff.1 (by simpa using hz)
      have b1 := heap_setCell_same w B 2 _ _ (.int .i8 0) h.blk
      have b2 := heap_setCell_same _ B 0 _ _ (.slice (some ⟨g, 0, none⟩) L.length cap) b1
      have ho : Only w ((w.setCell ⟨B, 2, none⟩ (.int .i8 0)).setCell ⟨B, 0, none⟩ (.slice (some ⟨g, 0, none⟩) L.length cap)) (fun i => i = B) := (Only.setCell w B 2 _).trans (Only.setCell _ B 0 _) (fun i hi => .inl hi)
      refine ⟨by rw [hz]; rfl, .slice (some ⟨g, 0, none⟩) L.length cap, ?_, ho.mono (fun i hi => .inl hi), fun k hk => .inl hk⟩
      rw [hsl, List.append_nil]
      exact ⟨b2, ho.own h.own (fun k hk e => by subst e; exact h.ne hk), h.room⟩
    · by_cases hr : L.length + s.size ≤ cap
      · refine (writeString_room s B g cap cur L w hR hr (by omega)).mono ?_
        rintro e w' ⟨rfl, rfl⟩
        have hne := hR.ne
        have b1 := heap_setCell_same w B 2 _ _ (.int .i8 0) h.blk
        have b2 := heap_setCell_same _ B 0 _ _ (.slice (some ⟨g, 0, none⟩) (L.length + s.size) cap) b1
        have g1 := (heap_setCell_other w ⟨B, 2, none⟩ g (.int .i8 0) hne).trans hh
        have g2 := (heap_setCell_other _ ⟨B, 0, none⟩ g (.slice (some ⟨g, 0, none⟩) (L.length + s.size) cap) hne).trans g1
        have hR2 : Roomy _ B g cap cur L s.size := ⟨b2, g2, hcs, htake, hr, h64, hcm⟩
        obtain ⟨r1, r2⟩ := hR2.str (S := s.data.toList) (by simp)
        refine ⟨rfl, _, r1, ?_, fun k hk => .inl hk⟩
        have ho : Only w ((w.setCell ⟨B, 2, none⟩ (.int .i8 0)).setCell ⟨B, 0, none⟩ (.slice (some ⟨g, 0, none⟩) (L.length + s.size) cap)) (fun i => i = B) := (Only.setCell w B 2 _).trans (Only.setCell _ B 0 _) (fun i hi => .inl hi)
        exact (ho.mono (T := Wr.S B (.slice (some ⟨g, 0, none⟩) L.length cap)) (fun i hi => .inl hi)).trans r2 (fun i hi => .inl (.inr (by simp [Value.ownBlock, hi])))
      · refine (writeString_full s B g cap cur L w hR hl (by omega) (by omega)).mono ?_
        rintro e w' ⟨rfl, v', q1, q2, q3⟩
        exact ⟨rfl, v', q1, q2.mono (fun i hi => .inl hi), fun k hk => .inr (q3 k hk)⟩
set_option maxRecDepth 10000 in
theorem wrText_gen (s : ByteArray) (B : Nat) (v : Value) (L : List UInt8) (w : World) (h : Wr w B v L) (hb : L.length + s.size + 20 ≤ 536870912) :
    Calls Tryd.prog 21 #[.pointer (some ⟨B, 0, none⟩), .string s] w fun e w' => e = .returned (.tuple #[]) ∧ ∃ v', Wr w' B v' (L ++ (form 9 s.size ++ s.data.toList)) ∧ Only w w' (Wr.S B v) ∧ (∀ k, v'.ownBlock = some k → v.ownBlock = some k ∨ w.heap.size ≤ k) := by
  have hN := wrNum_gen s.size (by omega) B v L w h (by omega)
  have hfl := form_length 9 s.size
  have hSt := fun W u (hu : Wr W B u (L ++ form 9 s.size)) => writeString_gen s B u _ W hu (by simp; omega) (by simp; omega)
  have HS := hid2 hSt
  clear h hSt
  go_enter Tryd.func21, Tryd.ntmps21
  go_wp2_with (first
    | (go_at_call 23; refine hN.mono ?_; rintro e w1 ⟨rfl, v1, hr1, ho1, hn1⟩; have HR1 := hid2 hr1; have HO1 := hid2 ho1; have HN1 := hid2 hn1; clear hr1 ho1 hn1)
    | (go_at_call 30; refine (HS.out _ _ HR1.out).mono ?_; rintro e w2 ⟨rfl, v2, hr2, ho2, hn2⟩; have HR2 := hid2 hr2; have HO2 := hid2 ho2; have HN2 := hid2 hn2; clear hr2 ho2 hn2))
  go_end0
  refine ⟨rfl, v2, by rw [← List.append_assoc]; exact HR2.out, HO1.out.trans HO2.out (fun i hi => ?_), fun k hk => ?_⟩
  · rcases hi with hi | hi
    · exact .inl (.inl hi)
    · exact (HN1.out i hi).elim (fun h => .inl (.inr h)) .inr
  · rcases HN2.out k hk with h | h
    · exact HN1.out k h
    · exact .inr (Nat.le_trans HO1.out.size h)
/-- A front of what is left, as a string, whatever the reader's cell holds. -/
theorem front_conv {w : World} {R g off n cap : Nat} {v : Value} {l : List UInt8} (h : Rd w R (.slice (some ⟨g, off, none⟩) n cap) l) (k j c m : Nat) (hk : k + j ≤ l.length) :
    (convert 26 9 (.slice (some ⟨g, off + k, none⟩) j c)).run Tryd.prog ((w.drewN m).setCell ⟨R, 0, none⟩ v) = .ok (.string ⟨((l.drop k).take j).toArray⟩) ((w.drewN m).setCell ⟨R, 0, none⟩ v) := by
  apply toString_any
  have hne : ¬ g = R := fun e => h.ne (by simp [Value.ownBlock, e])
  rcases h.seg.bytesAt with ⟨h', _⟩ | ⟨b, o, c', h', hc⟩
  · simp at h'
  · simp only [Value.slice.injEq, Option.some.injEq, Addr.mk.injEq, and_true] at h'
    obtain ⟨⟨rfl, rfl⟩, _, _⟩ := h'
    refine .inr ⟨g, off + k, c, by simp; omega, fun i hi => ?_⟩
    have hi' : i < j := by simp at hi; omega
    rw [World.cell?_of_block (w := w) (w' := (w.drewN m).setCell ⟨R, 0, none⟩ v) (a := ⟨g, off + k + i, none⟩) (heap_setCell_other (w.drewN m) ⟨R, 0, none⟩ g v hne), Nat.add_assoc, hc (k + i) (by omega)]
    simp
end Go.Proofs.YtnclpcnpaodjjaaDoor
