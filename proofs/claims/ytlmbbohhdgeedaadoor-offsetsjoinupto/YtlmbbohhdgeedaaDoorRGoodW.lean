/-
  The walks of caesuraref2.Scalar, One, size, lead, Good.
-/
import Derived.Test.YtlmbbohhdgeedaaDoorCutW
import Derived.Laws.IdiomStrings
import Derived.Laws.BytesString
namespace Go.Proofs.YtlmbbohhdgeedaaDoor
open Go.RowKit
/-- A scalar value. -/
def scalarP (p : Int) : Bool := decide (0 ≤ p) && decide (p ≤ 1114111) && (decide (p < 55296) || decide (57343 < p))
/-- The bytes of a scalar value. -/
def encL (n : Nat) : List UInt8 :=
  if n < 128 then [UInt8.ofNat n]
  else if n < 2048 then [UInt8.ofNat (192 + n / 64), UInt8.ofNat (128 + n % 64)]
  else if n < 65536 then [UInt8.ofNat (224 + n / 4096), UInt8.ofNat (128 + n / 64 % 64), UInt8.ofNat (128 + n % 64)]
  else [UInt8.ofNat (240 + n / 262144), UInt8.ofNat (128 + n / 4096 % 64), UInt8.ofNat (128 + n / 64 % 64), UInt8.ofNat (128 + n % 64)]
set_option maxRecDepth 10000 in
theorem refScalar_any (p : Int) (w : World) :
    Calls Tryd.prog 59 #[.int .i64 p] w fun e w' => e = .returned (.bool (scalarP p)) ∧ w' = w := by
  unfold scalarP
  by_cases ha : 0 ≤ p <;> by_cases hb : p ≤ 1114111 <;> by_cases hc : p < 55296 <;> by_cases hd : 57343 < p <;>
    (go_enter Tryd.func59, Tryd.ntmps59
     go_wp2
     go_ret
     exact ⟨by simp [ha, hb, hc, hd], rfl⟩)
/-- Bytes written down, as a string. -/
theorem conv_new (w : World) (l : List UInt8) (cs : Array Value) (n : Nat) (hn : n = l.length) (h : cs = (l.map fun c => Value.int .u8 (c.toNat : Int)).toArray) :
    (convert 68 9 (.slice (some ⟨w.heap.size, 0, none⟩) n n)).run Tryd.prog (w.alloc (.cells cs 5)) = .ok (.string ⟨l.toArray⟩) (w.alloc (.cells cs 5)) := by
  subst hn h
  refine run_convert_bytes_back (P := Tryd.prog) _ 68 9 5 ⟨w.heap.size, 0, none⟩ _ l Tryd.underlying68 Tryd.underlying5 Tryd.underlying9 (fun j hj => ?_)
  rw [Addr.add_lit, cell_of_row _ w.heap.size _ _ _ _ (heap_alloc_new w _)]
  simp [hj]
theorem u8n (n : Nat) (h : n < 256) : ((UInt8.ofNat n).toNat : Int) = (n : Int) := by rw [UInt8.toNat_ofNat']; omega
set_option maxRecDepth 10000 in
theorem refOne_any (n : Nat) (w : World) (h : n < 1114112) :
    Calls Tryd.prog 60 #[.int .i64 (n : Int)] w fun e w' => e = .returned (.string ⟨(encL n).toArray⟩) ∧ Below w.heap.size w w' := by
  by_cases h1 : n < 128
  · have hc := conv_new w (encL n) #[.int .u8 (n : Int)] 1 (by rw [encL, if_pos h1]; rfl) (by rw [encL, if_pos h1]; simp; omega)
    go_enter Tryd.func60, Tryd.ntmps60
    go_wp2
    go_ret
    exact ⟨rfl, by go_grown⟩
  · by_cases h2 : n < 2048
    · have hc := conv_new w (encL n) #[.int .u8 (192 + (n : Int) / 64), .int .u8 (128 + (n : Int) % 64)] 2 (by rw [encL, if_neg h1, if_pos h2]; rfl) (by rw [encL, if_neg h1, if_pos h2]; simp only [List.map, u8n (192 + n / 64) (by omega), u8n (128 + n % 64) (by omega)]; rfl)
      go_enter Tryd.func60, Tryd.ntmps60
      go_wp2
      go_ret
      exact ⟨rfl, by go_grown⟩
    · by_cases h3 : n < 65536
      · have i1 : ¬ (n : Int) < 128 := by omega
        have i2 : ¬ (n : Int) < 2048 := by omega
        have i3 : (n : Int) < 65536 := by omega
        have i0 : (0 : Int) ≤ n := by omega
        have hc := conv_new w (encL n) #[.int .u8 (224 + (n : Int) / 4096), .int .u8 (128 + (n : Int) / 64 % 64), .int .u8 (128 + (n : Int) % 64)] 3 (by rw [encL, if_neg h1, if_neg h2, if_pos h3]; rfl) (by rw [encL, if_neg h1, if_neg h2, if_pos h3]; simp only [List.map, u8n (224 + n / 4096) (by omega), u8n (128 + n / 64 % 64) (by omega), u8n (128 + n % 64) (by omega)]; rfl)
        clear h h1 h2 h3
        generalize (n : Int) = x at *
        go_enter Tryd.func60, Tryd.ntmps60
        go_wp2
        go_ret
        exact ⟨rfl, by go_grown⟩
      · have i1 : ¬ (n : Int) < 128 := by omega
        have i2 : ¬ (n : Int) < 2048 := by omega
        have i3 : ¬ (n : Int) < 65536 := by omega
        have i4 : (n : Int) < 1114112 := by omega
        have i0 : (0 : Int) ≤ n := by omega
        have hc := conv_new w (encL n) #[.int .u8 (240 + (n : Int) / 262144), .int .u8 (128 + (n : Int) / 4096 % 64), .int .u8 (128 + (n : Int) / 64 % 64), .int .u8 (128 + (n : Int) % 64)] 4 (by rw [encL, if_neg h1, if_neg h2, if_neg h3]; rfl) (by rw [encL, if_neg h1, if_neg h2, if_neg h3]; simp only [List.map, u8n (240 + n / 262144) (by omega), u8n (128 + n / 4096 % 64) (by omega), u8n (128 + n / 64 % 64) (by omega), u8n (128 + n % 64) (by omega)]; rfl)
        clear h h1 h2 h3
        generalize (n : Int) = x at *
        go_enter Tryd.func60, Tryd.ntmps60
        go_wp2
        go_ret
        exact ⟨rfl, by go_grown⟩
/-- How many bytes a lead byte says. -/
def sizeL (c : Nat) : Nat := if c < 128 then 1 else if 192 ≤ c ∧ c < 224 then 2 else if 224 ≤ c ∧ c < 240 then 3 else if 240 ≤ c ∧ c < 248 then 4 else 0
set_option maxRecDepth 10000 in
theorem refSize_any (c : UInt8) (w : World) :
    Calls Tryd.prog 57 #[.int .u8 (c.toNat : Int)] w fun e w' => e = .returned (.int .i64 (sizeL c.toNat : Int)) ∧ w' = w := by
  have hlt := c.toNat_lt
  generalize c.toNat = n at hlt
  rw [sizeL]
  split
  · go_enter Tryd.func57, Tryd.ntmps57
    go_wp2
    go_ret
    exact ⟨rfl, rfl⟩
  · split
    · go_enter Tryd.func57, Tryd.ntmps57
      go_wp2
      go_ret
      exact ⟨rfl, rfl⟩
    · split
      · go_enter Tryd.func57, Tryd.ntmps57
        go_wp2
        go_ret
        exact ⟨rfl, rfl⟩
      · split
        · go_enter Tryd.func57, Tryd.ntmps57
          go_wp2
          go_ret
          exact ⟨rfl, rfl⟩
        · go_enter Tryd.func57, Tryd.ntmps57
          go_wp2
          all_goals
            go_ret
            exact ⟨rfl, rfl⟩
set_option maxRecDepth 10000 in
theorem refLead_any (c : UInt8) (n : Nat) (hn : n < 5) (w : World) :
    Calls Tryd.prog 58 #[.int .u8 (c.toNat : Int), .int .i64 (n : Int)] w fun e w' => e = .returned (.int .i64 ((c.toNat : Int) - (if n = 2 then 192 else if n = 3 then 224 else if n = 4 then 240 else 0))) ∧ w' = w := by
  have hlt := c.toNat_lt
  generalize c.toNat = m at hlt
  obtain rfl | rfl | rfl | rfl | rfl : n = 0 ∨ n = 1 ∨ n = 2 ∨ n = 3 ∨ n = 4 := by omega
  all_goals
    go_enter Tryd.func58, Tryd.ntmps58
    go_wp2
    go_ret
    exact ⟨by simp, rfl⟩
end Go.Proofs.YtlmbbohhdgeedaaDoor
