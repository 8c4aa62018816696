/-
  The walks of caesuraref0's SameStrings, SameSet; caesurakit's SetLeft, OverSet.
-/
import Derived.Test.YthcpalpcakjfnaaEhBW
namespace Go.Proofs.Ythcpalpcakjfnaa
open Go.RowKit Go.Shelf
def markB : ByteArray := ⟨#[109, 97, 114, 107]⟩
set_option maxRecDepth 10000 in
set_option maxHeartbeats 800000 in
theorem sameS (l : List ByteArray) (a b : Option Addr) (ca cb : Nat) (w : World) (hl : l.length ≤ 8796093022208) (ha : SA w a l) (hb : SA w b l) :
    Calls Try.prog 26 #[.slice a l.length ca, .slice b l.length cb] w fun e w' => e = .returned (.bool true) ∧ ∃ n, w' = w.drewN n := by
  have HA := hid0 ha
  have HB := hid0 hb
  clear ha hb
  go_enter Try.func26, Try.ntmps26
  go_wp2
  go_loopw [5] (fun i wr => ∃ k : Nat, k ≤ l.length ∧ i = .int .i64 (k : Int) ∧ ∃ n, wr = w.drewN n) (fun i _ => l.length - (intOf i).toNat)
  case atStart => exact ⟨0, Nat.zero_le _, rfl, 0, rfl⟩
  case round =>
    obtain ⟨k, hk, rfl, nd, rfl⟩ := hrel
    by_cases hlt : k < l.length
    · obtain ⟨b1, o1, rfl, _, d1⟩ := HA.out.at' k hlt
      obtain ⟨b2, o2, rfl, _, d2⟩ := HB.out.at' k hlt
      have hkI : (k : Int) < (l.length : Int) := by omega
      have hkI0 : (0 : Int) ≤ (k : Int) := by omega
      generalize l[k] = s at *
      have hself : (s.toList == s.toList) = true := by simp
      go_wp2
      go_quiet ((fail))
      go_wp2
      go_roundw
      case rel => exact ⟨k + 1, by omega, by go_num, _, rfl⟩
      case measure => simp [intOf]; omega
    · have hkI : ¬ (k : Int) < (l.length : Int) := by omega
      go_wp2
      go_ret
      exact ⟨rfl, nd, rfl⟩
set_option maxRecDepth 10000 in
set_option maxHeartbeats 400000 in
theorem sameSet (nt : Bool) (L : List ByteArray) (l : List (Int × Int)) (a b c d : Option Addr) (ca cb cc cd : Nat) (w : World) (hL : L.length ≤ 8796093022208) (hl : l.length ≤ 8796093022208) (ha : SA w a L) (hb : RA w b l) (hc : SA w c L) (hd : RA w d l) :
    Calls Try.prog 17 #[.agg #[.bool nt, .slice a L.length ca, .slice b l.length cb], .agg #[.bool nt, .slice c L.length cc, .slice d l.length cd]] w fun e w' => e = .returned (.bool true) ∧ Below w.heap.size w w' := by
  obtain ⟨w0, hw0⟩ : ∃ w0, w0 = (w.alloc (.cells #[.bool nt, .slice a L.length ca, .slice b l.length cb] 29)).alloc (.cells #[.bool nt, .slice c L.length cc, .slice d l.length cd] 29) := ⟨_, rfl⟩
  have hs0 : w0.heap.size = w.heap.size + 2 := by rw [hw0]; simp
  have hB0 : Below w.heap.size w w0 := by rw [hw0]; exact ((Below.refl _ _).alloc (Nat.le_refl _) _).alloc (by simp) _
  have hX0 : w0.heap[w.heap.size]? = some (.cells #[.bool nt, .slice a L.length ca, .slice b l.length cb] 29 (0, 0)) := by
    rw [hw0]
    exact (Below.heap_alloc _ _ _ (by simp)).trans (heap_alloc_new w _)
  have hX1 : w0.heap[w.heap.size + 1]? = some (.cells #[.bool nt, .slice c L.length cc, .slice d l.length cd] 29 (0, 0)) := by
    rw [hw0]
    have h := heap_alloc_new (w.alloc (.cells #[.bool nt, .slice a L.length ca, .slice b l.length cb] 29)) (.cells #[.bool nt, .slice c L.length cc, .slice d l.length cd] 29)
    rw [show (w.alloc (.cells #[.bool nt, .slice a L.length ca, .slice b l.length cb] 29)).heap.size = w.heap.size + 1 by simp] at h
    exact h
  have x0 : w0.cell? ⟨w.heap.size, 1, none⟩ = some (.slice a L.length ca) := by rw [cell_of_row _ _ _ _ _ _ hX0]; rfl
  have x1 : w0.cell? ⟨w.heap.size, 2, none⟩ = some (.slice b l.length cb) := by rw [cell_of_row _ _ _ _ _ _ hX0]; rfl
  have x2 : w0.cell? ⟨w.heap.size + 1, 1, none⟩ = some (.slice c L.length cc) := by rw [cell_of_row _ _ _ _ _ _ hX1]; rfl
  have x3 : w0.cell? ⟨w.heap.size + 1, 2, none⟩ = some (.slice d l.length cd) := by rw [cell_of_row _ _ _ _ _ _ hX1]; rfl
  have x4 : w0.cell? ⟨w.heap.size, 0, none⟩ = some (.bool nt) := by rw [cell_of_row _ _ _ _ _ _ hX0]; rfl
  have x5 : w0.cell? ⟨w.heap.size + 1, 0, none⟩ = some (.bool nt) := by rw [cell_of_row _ _ _ _ _ _ hX1]; rfl
  have H1 := hid0 (sameS L a c ca cc w0 hL (ha.below hB0) (hc.below hB0))
  have HD : Hid (∀ n, Below w0.heap.size w0 (w0.drewN n)) := hid0 (fun n => ⟨rfl, rfl, rfl, Nat.le_refl _, fun _ _ => rfl⟩)
  have H2 : Hid (∀ n, Calls Try.prog 27 #[.slice b l.length cb, .slice d l.length cd] (w0.drewN n) fun e w' => e = .returned (.bool true) ∧ ∃ q, w' = (w0.drewN n).drewN q) := hid0 (fun n => sameR_eq l b d cb cd _ (by omega) ((hb.below hB0).below (HD.out n)) ((hd.below hB0).below (HD.out n)))
  have HB0 := hid0 hB0
  have hfold := hw0.symm
  have hnn : (nt == nt) = true := by simp
  clear ha hb hc hd hw0 hX0 hX1 hs0 hB0
  go_enter Try.func17, Try.ntmps17
  go_wp2_with (first
    | (go_at_call 26; refine H1.out.mono ?_; rintro e w1 ⟨rfl, n1, rfl⟩)
    | (go_at_call 27; refine (H2.out n1).mono ?_; rintro e w2 ⟨rfl, n2, rfl⟩))
  go_ret
  exact ⟨by simp, ⟨HB0.out.os, HB0.out.tape, HB0.out.output, HB0.out.size, HB0.out.block⟩⟩
set_option maxRecDepth 10000 in
set_option maxHeartbeats 800000 in
theorem setLeft_any (nt : Bool) (n m : Nat) (g h cap cap' : Nat) (w : World) (hn : n ≤ 8796093022208) (hm : m ≤ 8796093022208) (hc : n + 1 ≤ cap) (hc' : m + 1 ≤ cap') (d0 : w.cell? ⟨g, n, none⟩ = some (.string ⟨#[109, 97, 114, 107]⟩)) (d1 : w.cell? ⟨h, m * 2, none⟩ = some (.int .i64 (-77))) :
    Calls Try.prog 20 #[.agg #[.bool nt, .slice (some ⟨g, 0, none⟩) n cap, .slice (some ⟨h, 0, none⟩) m cap']] w fun e w' => e = .returned (.bool true) ∧ Below w.heap.size w w' := by
  obtain ⟨w0, hw0⟩ : ∃ w0, w0 = w.alloc (.cells #[.bool nt, .slice (some ⟨g, 0, none⟩) n cap, .slice (some ⟨h, 0, none⟩) m cap'] 29) := ⟨_, rfl⟩
  have hB0 : Below w.heap.size w w0 := by rw [hw0]; exact (Below.refl _ _).alloc (Nat.le_refl _) _
  have hX0 : w0.heap[w.heap.size]? = some (.cells #[.bool nt, .slice (some ⟨g, 0, none⟩) n cap, .slice (some ⟨h, 0, none⟩) m cap'] 29 (0, 0)) := by rw [hw0]; exact heap_alloc_new w _
  have x0 : w0.cell? ⟨w.heap.size, 1, none⟩ = some (.slice (some ⟨g, 0, none⟩) n cap) := by rw [cell_of_row _ _ _ _ _ _ hX0]; rfl
  have x1 : w0.cell? ⟨w.heap.size, 2, none⟩ = some (.slice (some ⟨h, 0, none⟩) m cap') := by rw [cell_of_row _ _ _ _ _ _ hX0]; rfl
  have e0 : w0.cell? ⟨g, n, none⟩ = some (.string ⟨#[109, 97, 114, 107]⟩) := (hB0.cell (p := ⟨g, n, none⟩) (World.block_lt_of_cell? w _ d0)).trans d0
  have e1 : w0.cell? ⟨h, m * 2, none⟩ = some (.int .i64 (-77)) := (hB0.cell (p := ⟨h, m * 2, none⟩) (World.block_lt_of_cell? w _ d1)).trans d1
  have HB0 := hid0 hB0
  have hfold := hw0.symm
  clear hw0 hX0 hB0 d0 d1
  have z0 : (0 : Int) ≤ (n : Int) := by omega
  have z1 : (n : Int) + 1 ≤ (cap : Int) := by omega
  have z2 : (0 : Int) ≤ (m : Int) := by omega
  have z3 : (m : Int) + 1 ≤ (cap' : Int) := by omega
  have q0 : (n : Int) < (n : Int) + 1 := by omega
  have q2 : (m : Int) < (m : Int) + 1 := by omega
  have r0 : IntKind.i64.wrap ((n : Int) + 1) = (n : Int) + 1 := by simp [IntKind.wrap, IntKind.bits, IntKind.signed]; omega
  have r1 : IntKind.i64.wrap ((m : Int) + 1) = (m : Int) + 1 := by simp [IntKind.wrap, IntKind.bits, IntKind.signed]; omega
  go_enter Try.func20, Try.ntmps20
  go_wp2
  go_ret
  exact ⟨rfl, HB0.out⟩
end Go.Proofs.Ythcpalpcakjfnaa
