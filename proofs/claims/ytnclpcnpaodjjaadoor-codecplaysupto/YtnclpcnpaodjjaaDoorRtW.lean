/-
  The walk of (*codec.Reader).Text where it reads.
-/
import Derived.Test.YtnclpcnpaodjjaaDoorTextW
namespace Go.Proofs.YtnclpcnpaodjjaaDoor
open Go.RowKit
theorem none_conv (w : World) (g off c : Nat) (l : List UInt8) (hl : l = []) :
    (convert 26 9 (.slice (some ⟨g, off, none⟩) 0 c)).run Tryd.prog w = .ok (.string ⟨l.toArray⟩) w := by
  subst hl
  exact toString_any (l := []) (.inr ⟨g, off, c, rfl, fun i hi => absurd hi (Nat.not_lt_zero _)⟩)
set_option maxRecDepth 10000 in
set_option maxHeartbeats 800000 in
theorem rdText_a (R g off cap : Nat) (l : List UInt8) (w : World) (most : Int) (n k : Nat) (hlen : l.length ≤ cap) (h : Rd w R (.slice (some ⟨g, off, none⟩) l.length cap) l)
    (hm : Calls Tryd.prog 28 #[.slice (some ⟨g, off, none⟩) l.length cap] w fun e w' => (∃ k', w' = w.drewN k') ∧ e = .returned (.tuple #[.int .i64 n, .int .i64 k, .nilIface]))
    (hmost : (n : Int) ≤ most) (hn : k + n ≤ l.length) (hck : ¬ cap = k) (hcn : ¬ cap - k = n) :
    Calls Tryd.prog 13 #[.pointer (some ⟨R, 0, none⟩), .int .i64 most] w fun e w' => e = .returned (.tuple #[.string ⟨((l.drop k).take n).toArray⟩, .nilIface]) ∧ ∃ v', Rd w' R v' (l.drop (k + n)) ∧ Only w w' (fun i => i = R) ∧ (∀ k, v'.ownBlock = some k → (Value.slice (some ⟨g, off, none⟩) l.length cap).ownBlock = some k) := by
  obtain ⟨c0, f0⟩ := h.cells
  have hlt := h.lt
  have hkI : (k : Int) ≤ (l.length : Int) := by omega
  have hcv := fun m v => front_conv (v := v) h k n (cap - k) m hn
  have hfin : ∀ m c, m = l.length - (k + n) → l.length - (k + n) ≤ c → ∀ m1, Seg (w.drewN m1) (.slice (some ⟨g, off + k + n, none⟩) m c) (l.drop (k + n)) := fun m c h1 h2 m1 => by rw [Nat.add_assoc]; exact (h.drewN m1).seg.drop (k + n) hn m c h1 h2
  have HF := hid2 hfin
  have HR := hid2 h
  clear hfin h
  go_enter Tryd.func13, Tryd.ntmps13
  go_wp2_with (go_at_call 28; refine hm.mono ?_; rintro e w1 ⟨⟨m1, rfl⟩, rfl⟩)
  go_ret2
  refine ⟨rfl, _, (HR.out.drewN m1).set (HF.out _ _ (by omega) (by omega) m1) (fun k hk => hk), (Only.drewN w m1 _).trans (Only.setCell _ R 0 _) (fun i hi => .inl hi), fun k hk => hk⟩
set_option maxRecDepth 10000 in
set_option maxHeartbeats 800000 in
theorem rdText_b (R g off cap : Nat) (l : List UInt8) (w : World) (most : Int) (n k : Nat) (hlen : l.length ≤ cap) (h : Rd w R (.slice (some ⟨g, off, none⟩) l.length cap) l)
    (hm : Calls Tryd.prog 28 #[.slice (some ⟨g, off, none⟩) l.length cap] w fun e w' => (∃ k', w' = w.drewN k') ∧ e = .returned (.tuple #[.int .i64 n, .int .i64 k, .nilIface]))
    (hmost : (n : Int) ≤ most) (hn : k + n ≤ l.length) (hck : ¬ cap = k) (hcn : cap - k = n) :
    Calls Tryd.prog 13 #[.pointer (some ⟨R, 0, none⟩), .int .i64 most] w fun e w' => e = .returned (.tuple #[.string ⟨((l.drop k).take n).toArray⟩, .nilIface]) ∧ ∃ v', Rd w' R v' (l.drop (k + n)) ∧ Only w w' (fun i => i = R) ∧ (∀ k, v'.ownBlock = some k → (Value.slice (some ⟨g, off, none⟩) l.length cap).ownBlock = some k) := by
  obtain ⟨c0, f0⟩ := h.cells
  have hlt := h.lt
  have hkI : (k : Int) ≤ (l.length : Int) := by omega
  have hcv : ∀ m v, (convert 26 9 (.slice (some ⟨g, off + k, none⟩) n n)).run Tryd.prog ((w.drewN m).setCell ⟨R, 0, none⟩ v) = .ok (.string ⟨((l.drop k).take n).toArray⟩) ((w.drewN m).setCell ⟨R, 0, none⟩ v) := fun m v => front_conv (v := v) h k n n m hn
  have hfin : ∀ m c, m = l.length - (k + n) → l.length - (k + n) ≤ c → ∀ m1, Seg (w.drewN m1) (.slice (some ⟨g, off + k, none⟩) m c) (l.drop (k + n)) := fun m c h1 h2 m1 => by
    have h3 := (h.drewN m1).seg.drop k (by omega) (l.length - k) (l.length - k) rfl (Nat.le_refl _)
    rw [← List.drop_drop]
    exact h3.drop_all n (by simp; omega) m c (by omega)
  have HF := hid2 hfin
  have HR := hid2 h
  clear hfin h
  go_enter Tryd.func13, Tryd.ntmps13
  go_wp2_with (go_at_call 28; refine hm.mono ?_; rintro e w1 ⟨⟨m1, rfl⟩, rfl⟩)
  go_ret2
  refine ⟨rfl, _, (HR.out.drewN m1).set (HF.out _ _ (by omega) (by omega) m1) (fun k hk => hk), (Only.drewN w m1 _).trans (Only.setCell _ R 0 _) (fun i hi => .inl hi), fun k hk => hk⟩
end Go.Proofs.YtnclpcnpaodjjaaDoor
