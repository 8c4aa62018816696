import Derived.Test.YtnclpcnpaodjjaaDoorRtW
namespace Go.Proofs.YtnclpcnpaodjjaaDoor
open Go.RowKit
set_option maxRecDepth 10000 in
theorem rdText_c (R g off cap : Nat) (l : List UInt8) (w : World) (most : Int) (n k : Nat) (hlen : l.length ≤ cap) (h : Rd w R (.slice (some ⟨g, off, none⟩) l.length cap) l)
    (hm : Calls Tryd.prog 28 #[.slice (some ⟨g, off, none⟩) l.length cap] w fun e w' => (∃ k', w' = w.drewN k') ∧ e = .returned (.tuple #[.int .i64 n, .int .i64 k, .nilIface]))
    (hmost : (n : Int) ≤ most) (hn : k + n ≤ l.length) (hck : cap = k) :
    Calls Tryd.prog 13 #[.pointer (some ⟨R, 0, none⟩), .int .i64 most] w fun e w' => e = .returned (.tuple #[.string ⟨((l.drop k).take n).toArray⟩, .nilIface]) ∧ ∃ v', Rd w' R v' (l.drop (k + n)) ∧ Only w w' (fun i => i = R) ∧ (∀ k, v'.ownBlock = some k → (Value.slice (some ⟨g, off, none⟩) l.length cap).ownBlock = some k) := by
  obtain ⟨c0, f0⟩ := h.cells
  have hlt := h.lt
  have hkI : (k : Int) ≤ (l.length : Int) := by omega
  have hn0 : n = 0 := by omega
  have hnn : n ≤ l.length - k := by omega
  subst hck
  have hlk := hid2 (Nat.le_antisymm hlen (by omega : cap ≤ l.length))
  have hcv : ∀ m v, (convert 26 9 (.slice (some ⟨g, off, none⟩) 0 0)).run Tryd.prog ((w.drewN m).setCell ⟨R, 0, none⟩ v) = .ok (.string ⟨#[]⟩) ((w.drewN m).setCell ⟨R, 0, none⟩ v) := fun m v => none_conv _ g off 0 [] rfl
  have HR := hid2 h
  clear h
  go_enter Tryd.func13, Tryd.ntmps13
  go_wp2_with (go_at_call 28; refine hm.mono ?_; rintro e w1 ⟨⟨m1, rfl⟩, rfl⟩)
  go_ret2
  refine ⟨by rw [hn0, List.take_zero]; rfl, _, (HR.out.drewN m1).set ((HR.out.drewN m1).seg.drop_all (cap + n) (by omega) _ _ (by omega)) (fun k hk => hk), (Only.drewN w m1 _).trans (Only.setCell _ R 0 _) (fun i hi => .inl hi), fun k hk => hk⟩
theorem rdText_ok (R : Nat) (v : Value) (l : List UInt8) (w : World) (ps pf : Addr) (most : Int) (n k : Nat) (hl : l.length ≤ 140737488355328) (h : Rd w R v l)
    (hS : w.cell? ⟨5, 0, none⟩ = some (.iface 87 (.pointer (some ps)))) (hF : w.cell? ⟨13, 0, none⟩ = some (.iface 87 (.pointer (some pf))))
    (hr : num l = .ok n k) (hmost : (n : Int) ≤ most) (hn : k + n ≤ l.length) :
    Calls Tryd.prog 13 #[.pointer (some ⟨R, 0, none⟩), .int .i64 most] w fun e w' => e = .returned (.tuple #[.string ⟨((l.drop k).take n).toArray⟩, .nilIface]) ∧ ∃ v', Rd w' R v' (l.drop (k + n)) ∧ Only w w' (fun i => i = R) ∧ (∀ k, v'.ownBlock = some k → v.ownBlock = some k) := by
  have hm := number_any l v w _ _ hl hS hF h.seg.bytesAt
  rw [hr, numVal] at hm
  obtain ⟨hk0, _⟩ := numFrom_le 0 0 l n k hr
  rcases h.seg with ⟨rfl, rfl⟩ | ⟨g, off, cap, cur, rfl, hcap, hh, hcells⟩
  · simp at hn; omega
  · by_cases hck : cap = k
    · exact rdText_c R g off cap l w most n k hcap h hm hmost hn hck
    · by_cases hcn : cap - k = n
      · exact rdText_b R g off cap l w most n k hcap h hm hmost hn hck hcn
      · exact rdText_a R g off cap l w most n k hcap h hm hmost hn hck hcn
end Go.Proofs.YtnclpcnpaodjjaaDoor
