/-
  The walks of caesuraref4.IsName and propfile.isName with what they call.
-/
import Derived.Test.YthdmhelgmejicaaGreatDoorPfRefW
namespace Go.Proofs.YthdmhelgmejicaaGreatDoor
open Go.RowKit
/-- May a byte stand at a place of a name? -/
def gd (j : Nat) (c : UInt8) : Bool := isLt c || (decide (j ≠ 0) && isNb c)
theorem isNm_iff (l : By) : isNm l = true ↔ 1 ≤ l.length ∧ l.length ≤ 32 ∧ ∀ j c, l[j]? = some c → gd j c = true := by
  cases l with
  | nil => simp [isNm]
  | cons a r =>
    simp only [isNm, List.head?_cons, Option.any_some, Bool.and_eq_true, decide_eq_true_eq, List.all_eq_true]
    constructor
    · rintro ⟨⟨⟨h1, h2⟩, h3⟩, h4⟩
      refine ⟨h1, h2, fun j c hc => ?_⟩
      cases j with
      | zero => simp at hc; subst hc; simp [gd, h3]
      | succ j => simp [gd, h4 c (List.mem_of_getElem? hc)]
    · rintro ⟨h1, h2, h3⟩
      have h0 : isLt a = true := by have := h3 0 a (by simp); simpa [gd] using this
      refine ⟨⟨⟨h1, h2⟩, h0⟩, fun c hc => ?_⟩
      obtain ⟨j, hj, e⟩ := List.getElem_of_mem hc
      have := h3 j c (by rw [List.getElem?_eq_getElem hj, e])
      simp only [gd, Bool.or_eq_true, Bool.and_eq_true] at this
      rcases this with h | h
      · simp [isNb, h]
      · exact h.2
theorem isNm_all (l : By) (h : ∀ j c, l[j]? = some c → gd j c = true) : isNm l = (decide (1 ≤ l.length) && decide (l.length ≤ 32)) := by
  rw [Bool.eq_iff_iff, isNm_iff]
  simp only [Bool.and_eq_true, decide_eq_true_eq]
  exact ⟨fun ⟨a, b, _⟩ => ⟨a, b⟩, fun ⟨a, b⟩ => ⟨a, b, h⟩⟩
theorem isNm_bad (l : By) (j : Nat) (c : UInt8) (hc : l[j]? = some c) (h : gd j c = false) : isNm l = false := by
  rw [Bool.eq_false_iff]
  intro hn
  have := ((isNm_iff l).1 hn).2.2 j c hc
  rw [h] at this
  simp at this
theorem u95 (c : UInt8) : (c == 95) = decide ((c.toNat : Int) = 95) := by
  rw [show (95 : UInt8) = UInt8.ofNat 95 from rfl, u8_eq c 95 (by omega)]; rfl
theorem gd_eq (j : Nat) (c : UInt8) (x : Int) (hx : (c.toNat : Int) = x) : gd j c = ((decide (65 ≤ x) && decide (x ≤ 90)) || (decide (97 ≤ x) && decide (x ≤ 122)) || (decide (j ≠ 0) && ((decide (48 ≤ x) && decide (x ≤ 57)) || decide (x = 95)))) := by
  subst hx
  rw [Bool.eq_iff_iff]
  simp only [gd, isNb, isLt, isDg, u95, Bool.or_eq_true, Bool.and_eq_true, decide_eq_true_eq]
  omega
set_option maxRecDepth 10000 in
set_option maxHeartbeats 1600000 in
theorem refIsName_any (s : ByteArray) (hs : s.size ≤ 4194400) (w : World) : Calls Tryz.prog 55 #[.string s] w fun e w' => e = .returned (.bool (isNm s.data.toList)) ∧ w' = w := by
  go_enter Tryz.func55, Tryz.ntmps55
  go_wp2
  go_loopw [3] (fun i wr => ∃ k : Nat, k ≤ s.size ∧ i = .int .i64 (k : Int) ∧ (∀ j c, j < k → s.data.toList[j]? = some c → gd j c = true) ∧ wr = w) (fun i _ => s.size - (intOf i).toNat)
  case atStart => exact ⟨0, Nat.zero_le _, rfl, fun j c hj => absurd hj (Nat.not_lt_zero _), rfl⟩
  case round =>
    obtain ⟨k, hk, rfl, hall, rfl⟩ := hrel
    have HA := hid0 hall
    clear hall
    by_cases hlt : k < s.size
    · have HC := hid0 (bget s k hlt)
      have hx0 : (0 : Int) ≤ (s[k].toNat : Int) := by omega
      obtain ⟨x, hx⟩ : ∃ x : Int, (s[k].toNat : Int) = x := ⟨_, rfl⟩
      have hG := gd_eq k s[k] x hx
      have HG : Hid (gd k s[k] = ((decide (65 ≤ x) && decide (x ≤ 90)) || (decide (97 ≤ x) && decide (x ≤ 122)) || (decide (k ≠ 0) && ((decide (48 ≤ x) && decide (x ≤ 57)) || decide (x = 95))))) := hid0 hG
      have HN : Hid (gd k s[k] = true → ∀ j c, j < k + 1 → s.data.toList[j]? = some c → gd j c = true) := hid0 (fun hg j c hj hc => by
        by_cases e : j = k
        · subst e; rw [HC.out] at hc; obtain rfl := Option.some.inj hc; exact hg
        · exact HA.out j c (by omega) hc)
      have HF : Hid (gd k s[k] = false → isNm s.data.toList = false) := hid0 (fun hg => isNm_bad _ k _ HC.out hg)
      clear hG HA HC
      rw [hx] at hx0
      by_cases hk0 : k = 0
      · subst hk0
        by_cases a2 : 65 ≤ x <;> by_cases a3 : x ≤ 90 <;> by_cases a4 : 97 ≤ x <;> by_cases a5 : x ≤ 122 <;> first
          | (exfalso; omega)
          | (have hg : gd 0 s[0] = true := by
               rw [HG.out, show decide ((0 : Nat) ≠ 0) = false from rfl, Bool.false_and, Bool.or_false]; simp only [Bool.or_eq_true, Bool.and_eq_true, decide_eq_true_eq]; omega
             have HN' := hid0 (HN.out hg)
             clear HG HN HF hg
             go_wp2
             exact ⟨⟨1, by omega, by first | rfl | go_num, HN'.out, trivial⟩, by simp [intOf]; omega⟩)
          | (have hg : gd 0 s[0] = false := by
               rw [HG.out, show decide ((0 : Nat) ≠ 0) = false from rfl, Bool.false_and, Bool.or_false, Bool.eq_false_iff]; simp only [ne_eq, Bool.or_eq_true, Bool.and_eq_true, decide_eq_true_eq]; omega
             have HF' := hid0 (HF.out hg)
             clear HG HN HF hg
             go_wp2
             go_ret
             exact ⟨by rw [HF'.out]; rfl, rfl⟩)
      · have hk0I : ¬ (k : Int) = 0 := by omega
        by_cases a2 : 65 ≤ x <;> by_cases a3 : x ≤ 90 <;> by_cases a4 : 97 ≤ x <;> by_cases a5 : x ≤ 122 <;> by_cases a0 : 48 ≤ x <;> by_cases a1 : x ≤ 57 <;> by_cases a6 : x = 95 <;> first
          | (exfalso; omega)
          | (have hg : gd k s[k] = true := by
               rw [HG.out]; simp only [Bool.or_eq_true, Bool.and_eq_true, decide_eq_true_eq]; omega
             have HN' := hid0 (HN.out hg)
             clear HG HN HF hg
             go_wp2
             exact ⟨⟨k + 1, by omega, by first | rfl | go_num, HN'.out, trivial⟩, by simp [intOf]; omega⟩)
          | (have hg : gd k s[k] = false := by
               rw [HG.out, Bool.eq_false_iff]; simp only [ne_eq, Bool.or_eq_true, Bool.and_eq_true, decide_eq_true_eq]; omega
             have e6 : (x == 95) = false := by simpa using a6
             have HF' := hid0 (HF.out hg)
             clear HG HN HF hg
             go_wp2
             go_ret
             exact ⟨by rw [HF'.out]; rfl, rfl⟩)
    · have hkI : ¬ (k : Int) < (s.size : Int) := by omega
      have hV : isNm s.data.toList = (decide ((1 : Int) ≤ (s.size : Int)) && decide ((s.size : Int) ≤ 32)) := by
        rw [isNm_all _ (fun j c hc => HA.out j c (by have := (List.getElem?_eq_some_iff.1 hc).1; simp at this; omega) hc), bsize0]
        congr 1 <;> (apply decide_eq_decide.2; omega)
      have HV := hid0 hV
      clear HA hV
      by_cases h1 : (1 : Int) ≤ (s.size : Int) <;> by_cases h2 : (s.size : Int) ≤ 32 <;>
        (go_wp2
         go_ret
         exact ⟨by rw [HV.out]; first | (rw [decide_eq_true h1, decide_eq_true h2]; rfl) | (rw [decide_eq_true h1, decide_eq_false (Int.not_le.2 h2)]; rfl) | (rw [decide_eq_false (Int.not_le.2 h1)]; rfl) | (rw [decide_eq_true h1]; rfl), rfl⟩)
end Go.Proofs.YthdmhelgmejicaaGreatDoor
