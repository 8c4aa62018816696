/-
  The walk of (*codec.Reader).Text, whatever it meets.
-/
import Derived.Test.YtnclpcnpaodjjaaDoorRt2W
namespace Go.Proofs.YtnclpcnpaodjjaaDoor
open Go.RowKit
/-- What a reader's Text answers; what is left. -/
def rdTextVal (xs xf xm : Value) (l : List UInt8) (most : Int) : NumR → Value
  | .ok n k => if most < (n : Int) then .tuple #[.string ⟨#[]⟩, xm] else if l.length < k + n then .tuple #[.string ⟨#[]⟩, xs] else .tuple #[.string ⟨((l.drop k).take n).toArray⟩, .nilIface]
  | .form => .tuple #[.string ⟨#[]⟩, xf]
  | .short => .tuple #[.string ⟨#[]⟩, xs]
def rdTextRest (l : List UInt8) (most : Int) : NumR → List UInt8
  | .ok n k => if most < (n : Int) then l else if l.length < k + n then l else l.drop (k + n)
  | _ => l
set_option maxRecDepth 10000 in
set_option maxHeartbeats 800000 in
theorem rdText_any (R : Nat) (v : Value) (l : List UInt8) (w : World) (ps pf pm : Addr) (most : Int) (hl : l.length ≤ 140737488355328) (h : Rd w R v l)
    (hS : w.cell? ⟨5, 0, none⟩ = some (.iface 87 (.pointer (some ps)))) (hF : w.cell? ⟨13, 0, none⟩ = some (.iface 87 (.pointer (some pf))))
    (hM : w.cell? ⟨4, 0, none⟩ = some (.iface 87 (.pointer (some pm)))) :
    Calls Tryd.prog 13 #[.pointer (some ⟨R, 0, none⟩), .int .i64 most] w fun e w' => e = .returned (rdTextVal (.iface 87 (.pointer (some ps))) (.iface 87 (.pointer (some pf))) (.iface 87 (.pointer (some pm))) l most (num l)) ∧ ∃ v', Rd w' R v' (rdTextRest l most (num l)) ∧ Only w w' (fun i => i = R) ∧ (∀ k, v'.ownBlock = some k → v.ownBlock = some k) := by
  have hm := number_any l v w _ _ hl hS hF h.seg.bytesAt
  obtain ⟨c0, f0⟩ := h.cells
  have HR := hid0 h
  have hlt := h.lt
  cases hr : num l with
  | form =>
    rw [hr, numVal] at hm
    clear hr h hS hF hM
    go_enter Tryd.func13, Tryd.ntmps13
    go_wp2_with (go_at_call 28; refine hm.mono ?_; rintro e w1 ⟨⟨m1, rfl⟩, rfl⟩)
    go_ret2
    exact ⟨rfl, v, HR.out.drewN _, Only.drewN _ _ _, fun k hk => hk⟩
  | short =>
    rw [hr, numVal] at hm
    clear hr h hS hF hM
    go_enter Tryd.func13, Tryd.ntmps13
    go_wp2_with (go_at_call 28; refine hm.mono ?_; rintro e w1 ⟨⟨m1, rfl⟩, rfl⟩)
    go_ret2
    exact ⟨rfl, v, HR.out.drewN _, Only.drewN _ _ _, fun k hk => hk⟩
  | ok n k =>
    by_cases hmo : most < (n : Int)
    · have HMo := hid0 hmo
      rw [hr, numVal] at hm
      clear hr h hS hF
      go_enter Tryd.func13, Tryd.ntmps13
      go_wp2_with (go_at_call 28; refine hm.mono ?_; rintro e w1 ⟨⟨m1, rfl⟩, rfl⟩)
      go_quiet ((fail))
      go_wp2
      go_ret2
      exact ⟨by simp only [rdTextVal, if_pos HMo.out]; rfl, v, by simp only [rdTextRest, if_pos HMo.out]; exact (HR.out.drewN m1).drewN _, (Only.drewN w m1 _).trans (Only.drewN _ _ _) (fun i hi => .inl hi), fun k hk => hk⟩
    · by_cases hn : l.length < k + n
      · have HMo := hid0 hmo
        have HNo := hid0 hn
        obtain ⟨hk0, hkl⟩ := numFrom_le 0 0 l n k hr
        rw [Nat.zero_add] at hkl
        rw [hr, numVal] at hm
        have hseg := h.seg
        rcases hseg with ⟨rfl, rfl⟩ | ⟨g, off, cap, cur, rfl, hcap, hh, hcells⟩
        · simp at hkl; omega
        · clear hr h hcells hh hF hM
          have hkI : (k : Int) ≤ (l.length : Int) := by omega
          have hnI : (l.length : Int) - (k : Int) < (n : Int) := by omega
          by_cases hck : cap = k
          · subst hck
            go_enter Tryd.func13, Tryd.ntmps13
            go_wp2_with (go_at_call 28; refine hm.mono ?_; rintro e w1 ⟨⟨m1, rfl⟩, rfl⟩)
            go_quiet ((fail))
            go_wp2
            go_ret2
            exact ⟨by simp only [rdTextVal, if_neg (Int.not_lt.2 HMo.out), if_pos HNo.out]; rfl, _, by simp only [rdTextRest, if_neg (Int.not_lt.2 HMo.out), if_pos HNo.out]; exact (HR.out.drewN m1).drewN _, (Only.drewN w m1 _).trans (Only.drewN _ _ _) (fun i hi => .inl hi), fun k hk => hk⟩
          · go_enter Tryd.func13, Tryd.ntmps13
            go_wp2_with (go_at_call 28; refine hm.mono ?_; rintro e w1 ⟨⟨m1, rfl⟩, rfl⟩)
            go_quiet ((fail))
            go_wp2
            go_ret2
            exact ⟨by simp only [rdTextVal, if_neg (Int.not_lt.2 HMo.out), if_pos HNo.out]; rfl, _, by simp only [rdTextRest, if_neg (Int.not_lt.2 HMo.out), if_pos HNo.out]; exact (HR.out.drewN m1).drewN _, (Only.drewN w m1 _).trans (Only.drewN _ _ _) (fun i hi => .inl hi), fun k hk => hk⟩
      · have h1 := rdText_ok R v l w ps pf most n k hl h hS hF hr (by omega) (by omega)
        simp only [rdTextVal, rdTextRest, if_neg hmo, if_neg hn]
        exact h1
end Go.Proofs.YtnclpcnpaodjjaaDoor
