/-
  The walks of caesuraref8.Holds, slices.Index and Contains over texts.
-/
import Derived.Test.YtiebndgpbgiclaaEhBW
namespace Go.Proofs.Ytiebndgpbgiclaa
open Go.RowKit Go.Shelf
/-- Is a text among these? -/
def nmF (L : List ByteArray) (c : ByteArray) : Bool := L.any (fun s => decide (s = c))
/-- Does one of the ranges hold the point? -/
def ptF (R : List (Int × Int)) (p : Int) : Bool := R.any (fun r => decide (r.1 ≤ p) && decide (p ≤ r.2))
/-- Does a set hold a unit? -/
def holdsF (nt : Bool) (L : List ByteArray) (R : List (Int × Int)) (c : ByteArray) (p : Int) : Bool := nt != (nmF L c || (!(p == -1) && ptF R p))
theorem nm_take (L : List ByteArray) (c : ByteArray) (k : Nat) (h : k < L.length) : nmF (L.take (k + 1)) c = (nmF (L.take k) c || decide (L[k] = c)) := by
  unfold nmF
  rw [List.take_succ_eq_append_getElem h, List.any_append]
  simp
theorem pt_take (R : List (Int × Int)) (p : Int) (k : Nat) (h : k < R.length) : ptF (R.take (k + 1)) p = (ptF (R.take k) p || (decide (R[k].1 ≤ p) && decide (p ≤ R[k].2))) := by
  unfold ptF
  rw [List.take_succ_eq_append_getElem h, List.any_append]
  simp
theorem nm_hit (L : List ByteArray) (c : ByteArray) (k : Nat) (h : k < L.length) (he : L[k] = c) : nmF L c = true :=
  List.any_eq_true.2 ⟨L[k], List.getElem_mem h, by simp [he]⟩
set_option maxRecDepth 10000 in
set_option maxHeartbeats 800000 in
theorem index_any (L : List ByteArray) (a : Option Addr) (cap : Nat) (x : ByteArray) (w : World) (hl : L.length ≤ 8796093022208) (ha : SA w a L) :
    Calls Try.prog 15 #[.slice a L.length cap, .string x] w fun e w' => (∃ q, e = .returned (.int .i64 q) ∧ decide (0 ≤ q) = nmF L x) ∧ w' = w := by
  have HS := hid0 ha
  clear ha
  go_enter Try.func15, Try.ntmps15
  go_wp2
  go_loopw [8] (fun i wr => ∃ k : Nat, k ≤ L.length ∧ i = .int .i64 (k : Int) ∧ nmF (L.take k) x = false ∧ wr = w) (fun i _ => L.length - (intOf i).toNat)
  case atStart => exact ⟨0, Nat.zero_le _, rfl, rfl, rfl⟩
  case round =>
    obtain ⟨k, hk, rfl, hall, rfl⟩ := hrel
    have HA := hid0 hall
    clear hall
    by_cases hlt : k < L.length
    · obtain ⟨b, off, rfl, _, hc⟩ := HS.out.at' k hlt
      have hkI : (k : Int) < (L.length : Int) := by omega
      have hkI0 : (0 : Int) ≤ (k : Int) := by omega
      by_cases he : L[k] = x
      · have HV : Hid (nmF L x = true) := hid0 (nm_hit L x k hlt he)
        rw [he] at hc
        clear HA he HS
        go_wp2
        go_ret
        exact ⟨⟨k, rfl, by rw [HV.out]; simp⟩, rfl⟩
      · have HN : Hid (nmF (L.take (k + 1)) x = false) := hid0 (by rw [nm_take L x k hlt, HA.out]; simp [he])
        have hne := str_beq _ _ (fun e => he e.symm)
        clear HA he HS
        go_wp2
        go_roundw
        case rel => exact ⟨k + 1, hlt, by go_num, HN.out, trivial⟩
        case measure => simp [intOf]; omega
    · have hkI : ¬ (k : Int) < (L.length : Int) := by omega
      have HV : Hid (nmF L x = false) := hid0 (by have h := HA.out; rw [List.take_of_length_le (by omega)] at h; exact h)
      clear HA HS
      go_wp2
      go_ret
      exact ⟨⟨-1, rfl, by rw [HV.out]; rfl⟩, rfl⟩
set_option maxRecDepth 10000 in
set_option maxHeartbeats 800000 in
theorem contains_any (L : List ByteArray) (a : Option Addr) (cap : Nat) (x : ByteArray) (w : World) (hl : L.length ≤ 8796093022208) (ha : SA w a L) :
    Calls Try.prog 11 #[.slice a L.length cap, .string x] w fun e w' => e = .returned (.bool (nmF L x)) ∧ w' = w := by
  have HI := hid0 (index_any L a cap x w hl ha)
  generalize nmF L x = r at *
  clear ha
  go_enter Try.func11, Try.ntmps11
  go_wp2_with (go_at_call 15; refine HI.out.mono ?_; rintro e w1 ⟨⟨q, rfl, hq⟩, rfl⟩)
  go_ret
  exact ⟨by rw [← hq]; simp, rfl⟩
set_option maxRecDepth 10000 in
set_option maxHeartbeats 1600000 in
theorem refHolds_any (nt : Bool) (L : List ByteArray) (R : List (Int × Int)) (a b : Option Addr) (ca cb : Nat) (c : ByteArray) (p : Int) (w : World) (hl : L.length ≤ 8796093022208) (hr : R.length ≤ 8796093022208) (ha : SA w a L) (hb : RA w b R) :
    Calls Try.prog 8 #[.agg #[.bool nt, .slice a L.length ca, .slice b R.length cb], .agg #[.string c, .int .i64 p]] w fun e w' => e = .returned (.bool (holdsF nt L R c p)) ∧ Below w.heap.size w w' := by
  obtain ⟨w0, hw0⟩ : ∃ w0, w0 = (w.alloc (.cells #[.bool nt, .slice a L.length ca, .slice b R.length cb] 25)).alloc (.cells #[.string c, .int .i64 p] 27) := ⟨_, rfl⟩
  have hB0 : Below w.heap.size w w0 := by rw [hw0]; exact ((Below.refl _ _).alloc (Nat.le_refl _) _).alloc (by simp) _
  have hX0 : w0.heap[w.heap.size]? = some (.cells #[.bool nt, .slice a L.length ca, .slice b R.length cb] 25 (0, 0)) := by
    rw [hw0]
    exact (Below.heap_alloc _ _ _ (by simp)).trans (heap_alloc_new w _)
  have hX1 : w0.heap[w.heap.size + 1]? = some (.cells #[.string c, .int .i64 p] 27 (0, 0)) := by
    rw [hw0]
    have h := heap_alloc_new (w.alloc (.cells #[.bool nt, .slice a L.length ca, .slice b R.length cb] 25)) (.cells #[.string c, .int .i64 p] 27)
    rw [show (w.alloc (.cells #[.bool nt, .slice a L.length ca, .slice b R.length cb] 25)).heap.size = w.heap.size + 1 by simp] at h
    exact h
  have x0 : w0.cell? ⟨w.heap.size, 0, none⟩ = some (.bool nt) := by rw [cell_of_row _ _ _ _ _ _ hX0]; rfl
  have x1 : w0.cell? ⟨w.heap.size, 1, none⟩ = some (.slice a L.length ca) := by rw [cell_of_row _ _ _ _ _ _ hX0]; rfl
  have x2 : w0.cell? ⟨w.heap.size, 2, none⟩ = some (.slice b R.length cb) := by rw [cell_of_row _ _ _ _ _ _ hX0]; rfl
  have x3 : w0.cell? ⟨w.heap.size + 1, 0, none⟩ = some (.string c) := by rw [cell_of_row _ _ _ _ _ _ hX1]; rfl
  have x4 : w0.cell? ⟨w.heap.size + 1, 1, none⟩ = some (.int .i64 p) := by rw [cell_of_row _ _ _ _ _ _ hX1]; rfl
  have HA := hid0 (ha.below hB0)
  have HB := hid0 (hb.below hB0)
  have HB0 := hid0 hB0
  have hfold := hw0.symm
  clear ha hb hw0 hX0 hX1 hB0
  go_enter Try.func8, Try.ntmps8
  go_wp2
  go_loopw [5, 6] (fun v i wr => ∃ k q : Nat, k ≤ L.length ∧ i = .int .i64 (k : Int) ∧ v = .bool (nmF (L.take k) c) ∧ wr = w0.drewN q) (fun _ i _ => L.length - (intOf i).toNat)
  case atStart => exact ⟨0, 0, Nat.zero_le _, rfl, rfl, rfl⟩
  case round =>
    obtain ⟨k, q, hk, rfl, rfl, rfl⟩ := hrel
    by_cases hlt : k < L.length
    · obtain ⟨b1, o1, rfl, _, c0⟩ := HA.out.at' k hlt
      have hkI : (k : Int) < (L.length : Int) := by omega
      have hkI0 : (0 : Int) ≤ (k : Int) := by omega
      have HT := hid0 (nm_take L c k hlt)
      generalize nmF (L.take k) c = t at *
      generalize L[k] = s at *
      clear HA
      cases t with
      | true =>
        go_wp2
        go_quiet ((fail))
        go_wp2
        go_roundw
        case rel => exact ⟨k + 1, _, hlt, by go_num, by rw [HT.out]; rfl, rfl⟩
        case measure => simp [intOf]; omega
      | false =>
        by_cases he : s = c
        · subst he
          have hself : (s.toList == s.toList) = true := by simp
          go_wp2
          go_quiet ((fail))
          go_wp2
          go_roundw
          case rel => exact ⟨k + 1, _, hlt, by go_num, by rw [HT.out]; simp, rfl⟩
          case measure => simp [intOf]; omega
        · have hne := str_beq _ _ he
          have HE := hid0 he
          clear he
          go_wp2
          go_quiet ((fail))
          go_wp2
          go_roundw
          case rel => exact ⟨k + 1, _, hlt, by go_num, by rw [HT.out]; simp [HE.out], rfl⟩
          case measure => simp [intOf]; omega
    · have hkI : ¬ (k : Int) < (L.length : Int) := by omega
      have hkl : L.take k = L := List.take_of_length_le (by omega)
      rw [hkl]
      clear hkl HA
      go_wp2
      go_loopw [5, 7] (fun v i wr => ∃ k q : Nat, k ≤ R.length ∧ i = .int .i64 (k : Int) ∧ v = .bool (nmF L c || (!(p == -1) && ptF (R.take k) p)) ∧ wr = w0.drewN q) (fun _ i _ => R.length - (intOf i).toNat)
      case atStart => exact ⟨0, q, Nat.zero_le _, rfl, by simp [ptF], rfl⟩
      case round =>
        obtain ⟨k, q, hk, rfl, rfl, rfl⟩ := hrel
        by_cases hlt : k < R.length
        · obtain ⟨b1, o1, rfl, c0, c1⟩ := HB.out.at' k hlt
          have hkI : (k : Int) < (R.length : Int) := by omega
          have hkI0 : (0 : Int) ≤ (k : Int) := by omega
          have HT := hid0 (pt_take R p k hlt)
          generalize ptF (R.take k) p = t at *
          generalize R[k] = r at *
          obtain ⟨lo, hi⟩ := r
          simp only at c0 c1 HT
          clear HB
          obtain ⟨u, hu⟩ : ∃ u, u = (nmF L c || (!(p == -1) && t)) := ⟨_, rfl⟩
          have HU := hid0 hu
          rw [← hu]
          clear hu
          cases u with
          | true =>
            have HG : Hid ((nmF L c || (!(p == -1) && ptF (R.take (k + 1)) p)) = true) := hid0 (by
              rw [HT.out]
              have h := HU.out.symm
              revert h
              cases nmF L c <;> cases (p == -1) <;> cases t <;> simp)
            go_wp2
            go_quiet ((fail))
            go_wp2
            go_roundw
            case rel => exact ⟨k + 1, _, hlt, by go_num, by rw [HG.out], rfl⟩
            case measure => simp [intOf]; omega
          | false =>
            have HG : Hid ((nmF L c || (!(p == -1) && ptF (R.take (k + 1)) p)) = (!(p == -1) && (decide (lo ≤ p) && decide (p ≤ hi)))) := hid0 (by
              rw [HT.out]
              have h := HU.out.symm
              revert h
              cases nmF L c <;> cases (p == -1) <;> cases t <;> simp)
            by_cases hp : p = -1
            · subst hp
              go_wp2
              go_quiet ((fail))
              go_wp2
              go_roundw
              case rel => exact ⟨k + 1, _, hlt, by go_num, by rw [HG.out]; rfl, rfl⟩
              case measure => simp [intOf]; omega
            · have hp' : (p != -1) = true := by simpa using hp
              by_cases h1 : lo ≤ p
              · by_cases h2 : p ≤ hi
                · go_wp2
                  go_quiet ((fail))
                  go_wp2
                  go_roundw
                  case rel => exact ⟨k + 1, _, hlt, by go_num, by rw [HG.out]; simp [hp, h1, h2], rfl⟩
                  case measure => simp [intOf]; omega
                · have h2' : decide (p ≤ hi) = false := by simpa using h2
                  go_wp2
                  go_quiet ((fail))
                  go_wp2
                  go_roundw
                  case rel => exact ⟨k + 1, _, hlt, by go_num, by rw [HG.out]; simp [hp, h2], rfl⟩
                  case measure => simp [intOf]; omega
              · have h1' : decide (lo ≤ p) = false := by simpa using h1
                go_wp2
                go_quiet ((fail))
                go_wp2
                go_roundw
                case rel => exact ⟨k + 1, _, hlt, by go_num, by rw [HG.out, h1']; simp, rfl⟩
                case measure => simp [intOf]; omega
        · have hkI : ¬ (k : Int) < (R.length : Int) := by omega
          have hkl : R.take k = R := List.take_of_length_le (by omega)
          rw [hkl]
          have HF : Hid (holdsF nt L R c p = (nt != (nmF L c || (!(p == -1) && ptF R p)))) := hid0 rfl
          generalize (nmF L c || (!(p == -1) && ptF R p)) = t at *
          clear hkl HB
          have HD : Hid (∀ n, Below w.heap.size w (w0.drewN n)) := hid0 (fun n => ⟨HB0.out.os, HB0.out.tape, HB0.out.output, HB0.out.size, HB0.out.block⟩)
          cases nt <;> cases t
          all_goals
            go_wp2
            go_ret
            exact ⟨by rw [HF.out]; rfl, HD.out _⟩
end Go.Proofs.Ytiebndgpbgiclaa
