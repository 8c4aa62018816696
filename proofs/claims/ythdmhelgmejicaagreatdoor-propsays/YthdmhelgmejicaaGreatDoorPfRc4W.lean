/-
  propfile.readClaim, whatever the line.
-/
import Derived.Test.YthdmhelgmejicaaGreatDoorPfRc3W
namespace Go.Proofs.YthdmhelgmejicaaGreatDoor
open Go.RowKit Go.Shelf
theorem pre2 (r : By) : Lib.hasPrefix r [46, 46] = decide (r.take 2 = [46, 46]) := by
  unfold Lib.hasPrefix
  rw [Bool.eq_iff_iff, decide_eq_true_eq, List.isPrefixOf_iff_prefix, List.prefix_iff_eq_take]
  exact ⟨fun h => h.symm, fun h => h.symm⟩
theorem pre1 (r : By) : Lib.hasPrefix r [59] = decide (r.take 1 = [59]) := by
  unfold Lib.hasPrefix
  rw [Bool.eq_iff_iff, decide_eq_true_eq, List.isPrefixOf_iff_prefix, List.prefix_iff_eq_take]
  exact ⟨fun h => h.symm, fun h => h.symm⟩
theorem dw_nil (p : UInt8 → Bool) (x : By) (h : ∀ c ∈ x, p c = true) : x.dropWhile p = [] := by
  induction x with
  | nil => rfl
  | cons c r ih => rw [List.dropWhile_cons, if_pos (h c (.head _))]; exact ih (fun y hy => h y (.tail _ hy))
theorem isNm_split (x : By) : isNm x = (isNm (x.takeWhile isNb) && (x.dropWhile isNb).isEmpty) := by
  have hx := List.takeWhile_append_dropWhile (p := isNb) (l := x)
  by_cases hd : x.dropWhile isNb = []
  · rw [hd, List.append_nil] at hx
    rw [hx, hd]
    simp
  · have h1 : (x.dropWhile isNb).isEmpty = false := by simpa using hd
    rw [h1, Bool.and_false, Bool.eq_false_iff]
    intro hn
    simp only [isNm, Bool.and_eq_true, List.all_eq_true] at hn
    have : x.dropWhile isNb = [] := dw_nil _ _ (fun c hc => hn.2 c hc)
    exact hd this
theorem len_drop_le (x : By) (k : Nat) : (x.drop k).length ≤ x.length := by simp
theorem len_dw_le (p : UInt8 → Bool) (x : By) : (x.dropWhile p).length ≤ x.length := (List.dropWhile_sublist p).length_le
theorem len_trim_le (x p : By) : (Lib.trimPrefix x p).length ≤ x.length := by
  unfold Lib.trimPrefix; split <;> simp
/-- What readClaim answers. -/
def claimOut (pt : Addr) : Option (Nat × Nat × By) → Value
  | some (lo, hi, nm) => .tuple #[claimVal (lo : Int) (hi : Int) (rd nm), .nilIface]
  | none => .tuple #[claimVal 0 0 ⟨#[]⟩, .iface 236 (.pointer (some pt))]
theorem readClaim_any (x : By) (hx : x.length ≤ 4194400) (pt : Addr) (w : World) (hT : w.cell? ⟨2, 0, none⟩ = some (.iface 236 (.pointer (some pt)))) :
    Calls Tryz.prog 46 #[.string (rd x)] w fun e w' => e = .returned (claimOut pt (saidL x)) ∧ Below w.heap.size w w' := by
  unfold saidL
  by_cases h1 : ptOk x = true
  · rw [if_pos h1]
    simp only
    obtain ⟨r, hr⟩ : ∃ r, r = x.drop (ptLen x) := ⟨_, rfl⟩
    rw [← hr]
    have hrl : r.length ≤ 4194400 := Nat.le_trans (hr ▸ len_drop_le x _) hx
    have tl : ∀ (lo hi : Nat) (r3 : By), r3.length ≤ 4194400 →
        (∀ r4, r4 = r3.dropWhile isBl → Lib.hasPrefix r4 [59] = false → Calls Tryz.prog 46 #[.string (rd x)] w fun e w' => e = .returned (claimOut pt none) ∧ Below w.heap.size w w') →
        (∀ r4 r5 r6, r4 = r3.dropWhile isBl → Lib.hasPrefix r4 [59] = true → r5 = Lib.trimPrefix r4 [59] → r5.length ≤ 4194400 → r6 = r5.dropWhile isBl → r6.length ≤ 4194400 → isNm (r6.takeWhile isNb) = false → Calls Tryz.prog 46 #[.string (rd x)] w fun e w' => e = .returned (claimOut pt none) ∧ Below w.heap.size w w') →
        (∀ r4 r5 r6 nm c7 r7, r4 = r3.dropWhile isBl → Lib.hasPrefix r4 [59] = true → r5 = Lib.trimPrefix r4 [59] → r5.length ≤ 4194400 → r6 = r5.dropWhile isBl → r6.length ≤ 4194400 → isNm (r6.takeWhile isNb) = true → nm = r6.takeWhile isNb → r6.dropWhile isNb = c7 :: r7 → Calls Tryz.prog 46 #[.string (rd x)] w fun e w' => e = .returned (claimOut pt none) ∧ Below w.heap.size w w') →
        (∀ r4 r5 r6 nm, r4 = r3.dropWhile isBl → Lib.hasPrefix r4 [59] = true → r5 = Lib.trimPrefix r4 [59] → r5.length ≤ 4194400 → r6 = r5.dropWhile isBl → r6.length ≤ 4194400 → isNm (r6.takeWhile isNb) = true → nm = r6.takeWhile isNb → r6.dropWhile isNb = [] → Calls Tryz.prog 46 #[.string (rd x)] w fun e w' => e = .returned (claimOut pt (some (lo, hi, nm))) ∧ Below w.heap.size w w') →
        Calls Tryz.prog 46 #[.string (rd x)] w fun e w' => e = .returned (claimOut pt (tailL lo hi r3)) ∧ Below w.heap.size w w' := by
      intro lo hi r3 hl3 a1 a2 a3 a4
      unfold tailL
      cases h4 : r3.dropWhile isBl with
      | nil => exact a1 _ rfl (by rw [h4]; rfl)
      | cons c r2 =>
        simp only
        by_cases hc : c = 59
        · subst hc
          rw [if_pos rfl]
          have p1 : Lib.hasPrefix (r3.dropWhile isBl) [59] = true := by rw [pre1, h4]; simp
          have p2 : r2 = Lib.trimPrefix (r3.dropWhile isBl) [59] := by rw [Lib.trimPrefix, if_pos p1, h4]; rfl
          have l4 : (r3.dropWhile isBl).length ≤ 4194400 := Nat.le_trans (len_dw_le _ _) hl3
          have l5 : r2.length ≤ 4194400 := Nat.le_trans (p2 ▸ len_trim_le _ _) l4
          have l6 : (r2.dropWhile isBl).length ≤ 4194400 := Nat.le_trans (len_dw_le _ _) l5
          by_cases hn : isNm ((r2.dropWhile isBl).takeWhile isNb) = true
          · cases h7 : (r2.dropWhile isBl).dropWhile isNb with
            | nil =>
              have e1 : isNm (r2.dropWhile isBl) = true := by rw [isNm_split, hn, h7]; rfl
              rw [if_pos e1]
              have e2 : r2.dropWhile isBl = (r2.dropWhile isBl).takeWhile isNb := by
                have := List.takeWhile_append_dropWhile (p := isNb) (l := r2.dropWhile isBl)
                rw [h7, List.append_nil] at this
                exact this.symm
              exact a4 _ _ _ (r2.dropWhile isBl) rfl p1 p2 l5 rfl l6 hn e2 h7
            | cons c7 r7 =>
              have e1 : isNm (r2.dropWhile isBl) = false := by rw [isNm_split, hn, h7]; rfl
              rw [if_neg (by rw [e1]; simp)]
              exact a3 _ _ _ _ c7 r7 rfl p1 p2 l5 rfl l6 hn rfl h7
          · have hn' : isNm ((r2.dropWhile isBl).takeWhile isNb) = false := by simpa using hn
            have e1 : isNm (r2.dropWhile isBl) = false := by rw [isNm_split, hn']; rfl
            rw [if_neg (by rw [e1]; simp)]
            exact a2 _ _ _ rfl p1 p2 l5 rfl l6 hn'
        · rw [if_neg hc]
          exact a1 _ rfl (by rw [pre1, h4]; simpa using hc)
    by_cases h2 : r.take 2 = [46, 46]
    · rw [if_pos h2]
      have p2 : Lib.hasPrefix r [46, 46] = true := by rw [pre2, decide_eq_true h2]
      have e2 : r.drop 2 = Lib.trimPrefix r [46, 46] := by rw [Lib.trimPrefix, if_pos p2]; rfl
      obtain ⟨r2, hr2⟩ : ∃ r2, r2 = Lib.trimPrefix r [46, 46] := ⟨_, rfl⟩
      rw [e2, ← hr2]
      have hr2l : r2.length ≤ 4194400 := Nat.le_trans (hr2 ▸ len_trim_le r _) hrl
      by_cases h3 : ptOk r2 = true
      · rw [if_pos h3]
        have hl3 : (r2.drop (ptLen r2)).length ≤ 4194400 := Nat.le_trans (len_drop_le _ _) hr2l
        exact tl _ _ _ hl3
          (fun r4 q1 q2 => rc_semi1 x hx pt w hT h1 r hr p2 r2 hr2 hr2l h3 _ rfl hl3 r4 q1 q2)
          (fun r4 r5 r6 q1 q2 q3 q4 q5 q6 q7 => rc_name1 x hx pt w hT h1 r hr p2 r2 hr2 hr2l h3 _ rfl hl3 r4 q1 q2 r5 q3 q4 r6 q5 q6 q7)
          (fun r4 r5 r6 nm c7 r7 q1 q2 q3 q4 q5 q6 q7 q8 q9 => rc_rest1 x hx pt w hT h1 r hr p2 r2 hr2 hr2l h3 _ rfl hl3 r4 q1 q2 r5 q3 q4 r6 q5 q6 q7 nm q8 c7 r7 q9)
          (fun r4 r5 r6 nm q1 q2 q3 q4 q5 q6 q7 q8 q9 => rc_ok1 x hx pt w hT h1 r hr p2 r2 hr2 hr2l h3 _ rfl hl3 r4 q1 q2 r5 q3 q4 r6 q5 q6 q7 nm q8 q9)
      · rw [if_neg h3]
        exact rc_two x hx pt w hT h1 r hr p2 r2 hr2 hr2l (by simpa using h3)
    · rw [if_neg h2]
      have p2 : Lib.hasPrefix r [46, 46] = false := by rw [pre2, decide_eq_false h2]
      have e2 : r = Lib.trimPrefix r [46, 46] := by rw [Lib.trimPrefix, if_neg (by rw [p2]; simp)]
      exact tl _ _ _ hrl
        (fun r4 q1 q2 => rc_semi0 x hx pt w hT h1 r hr p2 r e2 hrl r4 q1 q2)
        (fun r4 r5 r6 q1 q2 q3 q4 q5 q6 q7 => rc_name0 x hx pt w hT h1 r hr p2 r e2 hrl r4 q1 q2 r5 q3 q4 r6 q5 q6 q7)
        (fun r4 r5 r6 nm c7 r7 q1 q2 q3 q4 q5 q6 q7 q8 q9 => rc_rest0 x hx pt w hT h1 r hr p2 r e2 hrl r4 q1 q2 r5 q3 q4 r6 q5 q6 q7 nm q8 c7 r7 q9)
        (fun r4 r5 r6 nm q1 q2 q3 q4 q5 q6 q7 q8 q9 => rc_ok0 x hx pt w hT h1 r hr p2 r e2 hrl r4 q1 q2 r5 q3 q4 r6 q5 q6 q7 nm q8 q9)
  · rw [if_neg h1]
    exact readClaim_p1 (rd x) (by rw [rd_size]; exact hx) pt w hT (by simpa using h1)
end Go.Proofs.YthdmhelgmejicaaGreatDoor
