/-
  The property file, put together class by class (stage 24).
-/
import Derived.Test.YtooeagpopncmgaaSxKW
namespace Go.Proofs.Ytooeagpopncmgaa
open Go.RowKit Go.Shelf
/-- A text of bytes. -/
abbrev tx (l : List UInt8) : ByteArray := ⟨l.toArray⟩
theorem tx_app (a b : List UInt8) : tx a ++ tx b = tx (a ++ b) := by
  apply ByteArray.ext
  simp
theorem tx_cells (l : List UInt8) : Lib.strCells (tx l) = Lib.byteCells l := by simp [Lib.strCells, Lib.byteCells]
theorem tx_size (l : List UInt8) : (tx l).size = l.length := List.size_toArray
/-- The builder at work: its block, the cell that holds the closure of a line. -/
structure Fw (w0 : World) (B b c : Nat) (l : List UInt8) (w : World) : Prop where
  bl : Bl B b (Lib.byteCells l) w
  ln : w.heap[c]? = some (.cells #[.func (.func 15) #[] #[.pointer (some ⟨b, 0, none⟩)]] 32 (0, 0))
  ne : ¬ c = b
  bel : Below B w0 w
  sz : B ≤ w.heap.size
theorem len_cells (l : List UInt8) : (Lib.byteCells l).length = l.length := Lib.byteCells_length l
set_option maxRecDepth 10000 in
set_option maxHeartbeats 800000 in
/-- A line is written. -/
theorem line_any (w0 : World) (B b c : Nat) (l s : List UInt8) (w : World) (h : Fw w0 B b c l w) (hlen : l.length + s.length ≤ 100000) :
    Calls Try.prog 15 #[.string (tx s), .pointer (some ⟨b, 0, none⟩)] w fun e w' => e = .returned (.tuple #[]) ∧ Fw w0 B b c (l ++ s ++ [10]) w' ∧ Kb b w w' := by
  have hsz : (tx s).size ≤ 100000 := by rw [tx_size]; omega
  have HW : Hid (Calls Try.prog 16 #[.pointer (some ⟨b, 0, none⟩), .string (tx s ++ ⟨#[10]⟩)] w fun e w' => (∃ n : Int, e = .returned (.tuple #[.int .i64 n, .nilIface])) ∧ Fw w0 B b c (l ++ s ++ [10]) w' ∧ Kb b w w') := hid0 (by
    have e1 : tx s ++ (⟨#[10]⟩ : ByteArray) = tx (s ++ [10]) := tx_app s [10]
    rw [e1]
    refine (writeString_any B b (Lib.byteCells l) (tx (s ++ [10])) w h.bl (by rw [len_cells, tx_size]; simp; omega) h.sz).mono ?_
    rintro e w' ⟨rfl, h1, h2, h3⟩
    rw [tx_cells, ← Lib.byteCells_append, ← List.append_assoc] at h1
    exact ⟨⟨_, rfl⟩, ⟨.inr h1, h3 _ _ _ _ h.ln (by decide) h.ne, h.ne, h.bel.trans h2, Nat.le_trans h.sz h2.size⟩, h3⟩)
  generalize tx s = S at *
  clear h hlen
  go_enter Try.func15, Try.ntmps15
  go_wp2_with (go_at_call 16; refine HW.out.mono ?_; rintro e w1 ⟨⟨n1, rfl⟩, h1, h2⟩; have HR := hid0 (And.intro h1 h2); clear h1 h2)
  go_end0
  exact ⟨rfl, HR.out⟩
/-- The lines of a class. -/
def clsF (name : List UInt8) (L : List (List UInt8)) : List UInt8 := L.flatMap fun p => p ++ [59] ++ name ++ [10]
theorem clsF_len (name : List UInt8) : ∀ (L : List (List UInt8)), (∀ p ∈ L, p.length ≤ 100) → (clsF name L).length ≤ L.length * (102 + name.length)
  | [], _ => by simp [clsF]
  | p :: L, h => by
    have h1 := clsF_len name L (fun q hq => h q (List.mem_cons_of_mem _ hq))
    have h2 := h p List.mem_cons_self
    unfold clsF at h1 ⊢
    rw [List.flatMap_cons, List.length_append]
    simp only [List.length_append, List.length_cons, List.length_nil]
    have h3 : (L.length + 1) * (102 + name.length) = L.length * (102 + name.length) + (102 + name.length) := by rw [Nat.add_mul]; simp
    omega
theorem clsF_take (name : List UInt8) (L : List (List UInt8)) (k : Nat) (hk : k < L.length) : clsF name (L.take (k + 1)) = clsF name (L.take k) ++ (L[k] ++ [59] ++ name ++ [10]) := by
  unfold clsF
  rw [List.take_add_one, List.getElem?_eq_getElem hk]
  simp only [List.flatMap_append, Option.toList_some, List.flatMap_singleton]
set_option maxRecDepth 10000 in
set_option maxHeartbeats 1600000 in
/-- A class is written. -/
theorem class_any (w0 : World) (B b c g : Nat) (l name : List UInt8) (L : List (List UInt8)) (w : World) (h : Fw w0 B b c l w) (hlen : l.length ≤ 20000) (hn : name.length ≤ 100) (hL : L.length ≤ 100) (hp : ∀ p ∈ L, p.length ≤ 100)
    (hg : w.heap[g]? = some (.cells (L.map fun p => Value.string (tx p)).toArray 9 (0, 0))) (hgb : ¬ g = b) :
    Calls Try.prog 17 #[.string (tx name), .slice (some ⟨g, 0, none⟩) L.length L.length, .pointer (some ⟨c, 0, none⟩)] w fun e w' => e = .returned (.tuple #[]) ∧ Fw w0 B b c (l ++ clsF name L) w' := by
  have H0 : Hid (Fw w0 B b c (l ++ clsF name (L.take 0)) w) := hid0 (by simpa [clsF] using h)
  have HG := hid0 hg
  have HL : Hid (∀ k (_ : k < L.length), (clsF name (L.take k)).length ≤ 20200) := hid0 (fun k hk => by
    have h1 := clsF_len name (L.take k) (fun p h => hp p (List.mem_of_mem_take h))
    rw [List.length_take] at h1
    have h2 : min k L.length * (102 + name.length) ≤ 100 * 202 := Nat.mul_le_mul (by omega) (by omega)
    omega)
  have HT : Hid (∀ k (hk : k < L.length), l ++ clsF name (L.take k) ++ (L[k] ++ [59] ++ name) ++ [10] = l ++ clsF name (L.take (k + 1))) := hid0 (fun k hk => by
    rw [clsF_take name L k hk]
    simp [List.append_assoc])
  have HF : Hid (l ++ clsF name (L.take L.length) = l ++ clsF name L) := hid0 (by rw [List.take_length])
  have HP := hid0 hp
  obtain ⟨n, hnn⟩ : ∃ n, n = L.length := ⟨_, rfl⟩
  have HN := hid0 hnn
  rw [← hnn] at hL HF ⊢
  clear h hg hp hnn
  go_enter Try.func17, Try.ntmps17
  go_wp2
  go_loopw [9] (fun v wr => ∃ k : Nat, k ≤ n ∧ v = .int .i64 (k : Int) ∧ Hid (Fw w0 B b c (l ++ clsF name (L.take k)) wr) ∧ Hid (wr.heap[g]? = some (.cells (L.map fun p => Value.string (tx p)).toArray 9 (0, 0)))) (fun v _ => n - (intOf v).toNat)
  case atStart => exact ⟨0, Nat.zero_le _, rfl, H0, HG⟩
  case round =>
    clear H0 HG
    obtain ⟨k, hk, rfl, HW, HG⟩ := hrel
    by_cases hlt : k < n
    · have hkI : (k : Int) < (n : Int) := by omega
      have hkI0 : (0 : Int) ≤ (k : Int) := by omega
      have hkr : k < L.length := by rw [← HN.out]; exact hlt
      have d0 : wr.cell? ⟨g, k, none⟩ = some (.string (tx L[k])) := by
        rw [cell_of_row _ _ _ _ _ _ HG.out]
        simp [hkr]
      have d1 : wr.cell? ⟨c, 0, none⟩ = some (.func (.func 15) #[] #[.pointer (some ⟨b, 0, none⟩)]) := by
        rw [cell_of_row _ _ _ _ _ _ HW.out.ln]
        rfl
      have hps : (tx L[k]).size ≤ 100 := by rw [tx_size]; exact HP.out _ (List.getElem_mem hkr)
      have hns : (tx name).size ≤ 100 := by rw [tx_size]; exact hn
      have HC : Hid (Calls Try.prog 15 #[.string (tx L[k] ++ ⟨#[59]⟩ ++ tx name), .pointer (some ⟨b, 0, none⟩)] wr fun e w' => e = .returned (.tuple #[]) ∧ Fw w0 B b c (l ++ clsF name (L.take (k + 1))) w' ∧ w'.heap[g]? = some (.cells (L.map fun p => Value.string (tx p)).toArray 9 (0, 0))) := hid0 (by
        have e1 : tx L[k] ++ (⟨#[59]⟩ : ByteArray) ++ tx name = tx (L[k] ++ [59] ++ name) := by rw [← tx_app, ← tx_app]
        rw [e1]
        refine (line_any w0 B b c _ (L[k] ++ [59] ++ name) wr HW.out (by
          have h1 := HL.out k hkr
          have h2 := HP.out _ (List.getElem_mem hkr)
          simp only [List.length_append, List.length_cons, List.length_nil]
          omega)).mono ?_
        rintro e w' ⟨rfl, h1, h2⟩
        rw [HT.out k hkr] at h1
        exact ⟨rfl, h1, h2 _ _ _ _ HG.out (by decide) hgb⟩)
      generalize hS1 : tx L[k] = S1 at *
      generalize hS2 : tx name = S2 at *
      have g1 : ¬ 9223372036854775807 < S1.size + 1 := by omega
      have g2 : ¬ 9223372036854775807 < S1.size + 1 + S2.size := by omega
      clear hS1 hS2 HW HG
      go_wp2_with (go_at_call 15; refine HC.out.mono ?_; rintro e w1 ⟨rfl, h1, h2⟩; have H1 := hid0 h1; have H2 := hid0 h2; clear h1 h2)
      go_roundw
      case rel => exact ⟨k + 1, by omega, by go_num, H1, H2⟩
      case measure => simp [intOf]; omega
    · have hkI : ¬ (k : Int) < (n : Int) := by omega
      have hkn : k = n := by omega
      have HE : Hid (Fw w0 B b c (l ++ clsF name L) wr) := hid0 (by rw [← HF.out]; have := HW.out; rw [hkn, HN.out] at this; rw [HN.out] at *; exact this)
      clear HW
      go_wp2
      go_end0
      exact ⟨rfl, HE.out⟩
end Go.Proofs.Ytooeagpopncmgaa
