/-
  The walk of caesuraref4.Joined.
-/
import Derived.Test.YthdmhelgmejicaaGreatDoorPfPtW
namespace Go.Proofs.YthdmhelgmejicaaGreatDoor
open Go.RowKit Go.Shelf
/-- One span more, joined with the last where it may. -/
def joinStep (o : List Sp) (t : Sp) : List Sp := match o.getLast? with
  | some u => if u.2.1 + 1 = t.1 ∧ u.2.2 = t.2.2 then o.dropLast ++ [(u.1, t.2.1, u.2.2)] else o ++ [t]
  | none => [t]
def joinL (l : List Sp) : List Sp := l.foldl joinStep []
theorem joinL_snoc (l : List Sp) (t : Sp) : joinL (l ++ [t]) = joinStep (joinL l) t := by simp [joinL]
theorem join_yes (o : List Sp) (u t : Sp) (h1 : u.2.1 + 1 = t.1) (h2 : u.2.2 = t.2.2) : joinStep (o ++ [u]) t = o ++ [(u.1, t.2.1, u.2.2)] := by
  simp [joinStep, h1, h2]
theorem join_no (o : List Sp) (u t : Sp) (h : ¬ (u.2.1 + 1 = t.1 ∧ u.2.2 = t.2.2)) : joinStep (o ++ [u]) t = o ++ [u] ++ [t] := by
  unfold joinStep
  simp only [List.getLast?_append, List.getLast?_singleton, Option.some_or]
  rw [if_neg h]
theorem joinL_len (l : List Sp) : (joinL l).length ≤ l.length := by
  suffices H : ∀ (l o : List Sp), (l.foldl joinStep o).length ≤ o.length + l.length by simpa [joinL] using H l []
  intro l
  induction l with
  | nil => intro o; simp
  | cons t r ih =>
    intro o
    have h1 : (joinStep o t).length ≤ o.length + 1 := by
      unfold joinStep
      split
      · split
        · first | (simp; done) | (simp; omega)
        · simp
      · simp
    have := ih (joinStep o t)
    simp only [List.foldl_cons, List.length_cons]
    omega
/-- All high points are no more than the greatest. -/
def Low (l : List Sp) : Prop := ∀ t ∈ l, -1 ≤ t.2.1 ∧ t.2.1 ≤ 1114111
theorem low_step (o : List Sp) (t : Sp) (ho : Low o) (ht : -1 ≤ t.2.1 ∧ t.2.1 ≤ 1114111) : Low (joinStep o t) := by
  intro x hx
  unfold joinStep at hx
  split at hx
  · split at hx
    · rw [List.mem_append] at hx
      rcases hx with hx | hx
      · exact ho x (List.dropLast_subset _ hx)
      · simp at hx; subst hx; exact ht
    · rw [List.mem_append] at hx
      rcases hx with hx | hx
      · exact ho x hx
      · simp at hx; subst hx; exact ht
  · simp at hx; subst hx; exact ht
theorem snoc_cases (o : List Sp) : o = [] ∨ ∃ o' u, o = o' ++ [u] := by
  rcases List.eq_nil_or_concat o with h | ⟨a, b, h⟩
  · exact .inl h
  · exact .inr ⟨a, b, by simpa using h⟩
theorem ownP_set {w : World} {base g c : Nat} {o : List Sp} {ul uh un x : Int} (h : OwnP w base (.slice (some ⟨g, 0, none⟩) (o ++ [(ul, uh, un)]).length c) (o ++ [(ul, uh, un)])) :
    OwnP (w.setCell ⟨g, o.length * 3 + 1, none⟩ (.int .i64 x)) base (.slice (some ⟨g, 0, none⟩) (o ++ [(ul, uh, un)]).length c) (o ++ [(ul, x, un)]) := by
  have h1 := (World.ownsRow.stored h (o.length * 3 + 1) (.int .i64 x)).1
  have e : (cellsP (o ++ [(ul, uh, un)])).set (o.length * 3 + 1) (.int .i64 x) = cellsP (o ++ [(ul, x, un)]) := by
    rw [cellsP_append, cellsP_append, List.set_append_right _ _ (by rw [cellsP_length]; omega), cellsP_length, show o.length * 3 + 1 - o.length * 3 = 1 by omega]
    rfl
  unfold OwnP
  rw [show (o ++ [(ul, x, un)]).length = (o ++ [(ul, uh, un)]).length by simp, ← e]
  simpa using h1
set_option maxRecDepth 10000 in
set_option maxHeartbeats 800000 in
theorem refJoined_any (l : List Sp) (a : Option Addr) (cap : Nat) (hl : l.length ≤ 50000000) (hlow : Low l) (w : World) (ha : PA w a l) :
    Calls Tryz.prog 33 #[.slice a l.length cap] w fun e w' => ∃ v, e = .returned v ∧ OwnP w' w.heap.size v (joinL l) ∧ Below w.heap.size w w' := by
  obtain ⟨i0, hi, hz0, hz1, hz2⟩ := info_parts infoSpan
  have HA := hid0 ha
  have HLw := hid0 hlow
  clear ha hlow
  go_enter Tryz.func33, Tryz.ntmps33
  go_wp2
  go_loopw [3, 4] (fun v i wr => ∃ (k : Nat) (o : List Sp), k ≤ l.length ∧ i = .int .i64 (k : Int) ∧ Hid (o = joinL (l.take k)) ∧ o.length ≤ k ∧ Hid (Low o) ∧ Hid (OwnP wr w.heap.size v o) ∧ (o = [] → v = .slice none 0 0) ∧ Hid (Below w.heap.size w wr)) (fun _ i _ => l.length - (intOf i).toNat)
  case atStart => exact ⟨0, [], Nat.zero_le _, rfl, rfl, Nat.le_refl _, fun t ht => by simp at ht, OwnP.nil _ _, fun _ => rfl, Below.refl _ _⟩
  case round =>
    obtain ⟨k, o, hk, rfl, HJ, hok, HLo, HO, hnil, HB⟩ := hrel
    have hs := HB.out.size
    by_cases hlt : k < l.length
    · obtain ⟨b1, o1, rfl, hb1, d0, d1, d2⟩ := (HA.out.later HB.out).at' k hlt
      have HT : Hid (joinL (l.take (k + 1)) = joinStep o l[k]) := hid0 (by
        rw [List.take_add_one, List.getElem?_eq_getElem hlt, Option.toList_some, joinL_snoc, ← HJ.out])
      have HLk := hid0 (HLw.out l[k] (List.getElem_mem hlt))
      generalize l[k] = r at *
      obtain ⟨lo, hi', nm⟩ := r
      simp only at d0 d1 d2
      have hkI : (k : Int) < (l.length : Int) := by omega
      have hkI0 : (0 : Int) ≤ (k : Int) := by omega
      rcases snoc_cases o with rfl | ⟨o', ⟨ul, uh, un⟩, rfl⟩
      · obtain rfl := hnil rfl
        have HN : Hid (joinL (l.take (k + 1)) = [(lo, hi', nm)]) := HT
        have g0 : decide ((0 : Int) ≤ -1) = false := by decide
        clear HT HJ HO hnil HLo
        go_wp2
        go_big_quiet (fail)
        have e0 : (wr.drewN nq).cell? ⟨b1, o1 + k * 3, none⟩ = some (.int .i64 lo) := d0
        have e1 : (wr.drewN nq).cell? ⟨b1, o1 + k * 3 + 1, none⟩ = some (.int .i64 hi') := d1
        have e2 : (wr.drewN nq).cell? ⟨b1, o1 + k * 3 + 2, none⟩ = some (.int .i64 nm) := d2
        have HBq := hid0 (below_drewN HB.out nq)
        have hsq := HBq.out.size
        clear d0 d1 d2 HB hs hb1
        generalize wr.drewN nq = wq at *
        have HOO : Hid (wq.ownsRow w.heap.size 72 3 (.slice none 0 0) 0 (cellsP [])) := World.ownsRow_nil _ _ _ _
        go_wp2_with (at_builtin; refine wpList_append_own _ rfl _ _ 23 rfl w.heap.size 72 i0 (.agg #[.int .i64 0, .int .i64 0, .int .i64 0]) 3 24 Tryz.underlying23 hi hz0 hz1 hz2 rfl (by decide) _ _ _ rfl (HOO.out.alloc _) ⟨wq.heap.size, 0, none⟩ 1 1 [.int .i64 lo, .int .i64 hi', .int .i64 nm] rfl rfl (cell3p_new _ _ _ _ _) (by simp [Value.oneCell']) (by unfold maxLen; omega) (by omega) (by simp; omega) ?_; intro v1 w1 hown' hgrow _; have R := ownP_snoc (w := w) (us := []) (u := (lo, hi', nm)) (n := 0) rfl (show OwnP wq _ _ [] from HOO.out) (by simpa using hown') hgrow HBq.out (Nat.le_refl _); have HR1 := hid0 R; clear hown' hgrow R)
        go_roundw
        case rel => exact ⟨k + 1, [(lo, hi', nm)], by omega, by go_num, hid0 HN.out.symm, by simp, fun t ht => by { simp at ht; subst ht; exact HLk.out }, HR1.out.1, fun h => by simp at h, HR1.out.2⟩
        case measure => simp [intOf]; omega
      · have hO := HO.out
        rcases hO.2 with ⟨_, hn⟩ | ⟨g, c, cur, rfl, _, hh, hc, _⟩
        · simp at hn
        · obtain ⟨m, hm⟩ : ∃ m, m = o'.length := ⟨_, rfl⟩
          have hlen : (o' ++ [(ul, uh, un)]).length = m + 1 := by simp [hm]
          have hcl := fun j (hj : j < 3) => World.ownsRow.cellAt hO (m * 3 + j) (by rw [hlen]; omega)
          have hfz := World.ownsRow.frozenAt hO (m * 3 + 1)
          have hce : cellsP (o' ++ [(ul, uh, un)]) = cellsP o' ++ [.int .i64 ul, .int .i64 uh, .int .i64 un] := by rw [cellsP_append]; rfl
          have k1 : wr.cell? ⟨g, m * 3 + 1, none⟩ = some (.int .i64 uh) := by
            rw [hcl 1 (by omega), hce, List.getElem?_append_right (by rw [cellsP_length]; omega), cellsP_length, hm, show o'.length * 3 + 1 - o'.length * 3 = 1 by omega]; rfl
          have k2 : wr.cell? ⟨g, m * 3 + 2, none⟩ = some (.int .i64 un) := by
            rw [hcl 2 (by omega), hce, List.getElem?_append_right (by rw [cellsP_length]; omega), cellsP_length, hm, show o'.length * 3 + 2 - o'.length * 3 = 2 by omega]; rfl
          have hu := HLo.out (ul, uh, un) (by simp)
          simp only at hu
          have hw : IntKind.i64.wrap (uh + 1) = uh + 1 := by rw [IntKind.wrap_i64]; omega
          have g0 : decide ((0 : Int) ≤ (m : Int)) = true := decide_eq_true (by omega)
          have hmI : (m : Int) < ((m + 1 : Nat) : Int) := by omega
          have HLn : Hid (Low (joinL (l.take (k + 1)))) := hid0 (by rw [HT.out]; exact low_step _ _ HLo.out HLk.out)
          have hob := World.ownsRow.lt hO g rfl
          have HBn : Hid (∀ n, Below w.heap.size w ((wr.drewN n).setCell ⟨g, m * 3 + 1, none⟩ (.int .i64 hi'))) := hid0 (fun n => (below_drewN HB.out n).setCell (by exact hob.1) _)
          have HST : Hid (∀ n, OwnP ((wr.drewN n).setCell ⟨g, m * 3 + 1, none⟩ (.int .i64 hi')) w.heap.size (.slice (some ⟨g, 0, none⟩) (m + 1) c) (o' ++ [(ul, hi', un)])) := hid0 (fun n => by
            have h1 : OwnP (wr.drewN n) w.heap.size (.slice (some ⟨g, 0, none⟩) (o' ++ [(ul, uh, un)]).length c) (o' ++ [(ul, uh, un)]) := hO
            have h2 := ownP_set (x := hi') h1
            rw [hlen, ← hm] at h2
            exact h2)
          have HO2 : Hid (∀ n, (wr.drewN n).ownsRow w.heap.size 72 3 (.slice (some ⟨g, 0, none⟩) (m + 1) c) (m + 1) (cellsP (o' ++ [(ul, uh, un)]))) := hid0 (fun n => by
            have h1 : OwnP (wr.drewN n) w.heap.size (.slice (some ⟨g, 0, none⟩) (o' ++ [(ul, uh, un)]).length c) (o' ++ [(ul, uh, un)]) := hO
            unfold OwnP at h1
            rw [hlen] at h1
            exact h1)
          have hmk : m + 1 ≤ k := by rw [← hlen]; exact hok
          have HLe := hid0 hlen
          rw [hlen]
          have HMm := hid0 hm
          clear hlen hcl hce hO hh hc HO hnil HJ hob hok HLo hu hm
          by_cases hj : uh + 1 = lo ∧ un = nm
          · have HN : Hid (joinL (l.take (k + 1)) = o' ++ [(ul, hi', un)]) := hid0 (by rw [HT.out]; exact join_yes _ _ _ hj.1 hj.2)
            have b1' : (uh + 1 == lo) = true := by simpa using hj.1
            have b2' : (un == nm) = true := by simpa using hj.2
            clear hj HT HO2
            go_wp2
            go_big_quiet (fail)
            go_wp2
            go_roundw
            case rel => exact ⟨k + 1, o' ++ [(ul, hi', un)], by omega, by go_num, hid0 HN.out.symm, by { have := HMm.out; simp; omega }, hid0 (by rw [← HN.out]; exact HLn.out), HST.out _, fun h => by simp at h, HBn.out _⟩
            case measure => simp [intOf]; omega
          · have HN : Hid (joinL (l.take (k + 1)) = o' ++ [(ul, uh, un)] ++ [(lo, hi', nm)]) := hid0 (by rw [HT.out]; exact join_no _ _ _ hj)
            have HJ2 := hid0 hj
            clear hj HT HST HBn
            by_cases hj1 : uh + 1 = lo
            · have b1' : (uh + 1 == lo) = true := by simpa using hj1
              have b2' : (un == nm) = false := by simpa using (fun h => HJ2.out ⟨hj1, h⟩)
              clear hj1
              go_wp2
              go_big_quiet (fail)
              have e0 : (wr.drewN nq).cell? ⟨b1, o1 + k * 3, none⟩ = some (.int .i64 lo) := d0
              have e1 : (wr.drewN nq).cell? ⟨b1, o1 + k * 3 + 1, none⟩ = some (.int .i64 hi') := d1
              have e2 : (wr.drewN nq).cell? ⟨b1, o1 + k * 3 + 2, none⟩ = some (.int .i64 nm) := d2
              have HBq := hid0 (below_drewN HB.out nq)
              have hsq := HBq.out.size
              have HOO := hid0 (HO2.out nq)
              clear d0 d1 d2 HB hs hb1 HO2 k1 k2 hfz
              generalize wr.drewN nq = wq at *
              go_wp2_with (at_builtin; refine wpList_append_own _ rfl _ _ 23 rfl w.heap.size 72 i0 (.agg #[.int .i64 0, .int .i64 0, .int .i64 0]) 3 24 Tryz.underlying23 hi hz0 hz1 hz2 rfl (by decide) _ _ _ rfl (HOO.out.alloc _) ⟨wq.heap.size, 0, none⟩ 1 1 [.int .i64 lo, .int .i64 hi', .int .i64 nm] rfl rfl (cell3p_new _ _ _ _ _) (by simp [Value.oneCell']) (by unfold maxLen; omega) (by omega) (by simp; omega) ?_; intro v1 w1 hown' hgrow _; have R := ownP_snoc (w := w) (us := o' ++ [(ul, uh, un)]) (u := (lo, hi', nm)) (n := m + 1) HLe.out.symm (show OwnP wq _ _ (o' ++ [(ul, uh, un)]) by unfold OwnP; rw [HLe.out]; exact HOO.out) (by simpa using hown') hgrow HBq.out (Nat.le_refl _); have HR1 := hid0 R; clear hown' hgrow R)
              go_roundw
              case rel => exact ⟨k + 1, o' ++ [(ul, uh, un)] ++ [(lo, hi', nm)], by omega, by go_num, hid0 HN.out.symm, by { have := HLe.out; rw [List.length_append, this]; simp; omega }, hid0 (by rw [← HN.out]; exact HLn.out), HR1.out.1, fun h => by simp at h, HR1.out.2⟩
              case measure => simp [intOf]; omega
            · have b1' : (uh + 1 == lo) = false := by simpa using hj1
              clear hj1
              go_wp2
              go_big_quiet (fail)
              have e0 : (wr.drewN nq).cell? ⟨b1, o1 + k * 3, none⟩ = some (.int .i64 lo) := d0
              have e1 : (wr.drewN nq).cell? ⟨b1, o1 + k * 3 + 1, none⟩ = some (.int .i64 hi') := d1
              have e2 : (wr.drewN nq).cell? ⟨b1, o1 + k * 3 + 2, none⟩ = some (.int .i64 nm) := d2
              have HBq := hid0 (below_drewN HB.out nq)
              have hsq := HBq.out.size
              have HOO := hid0 (HO2.out nq)
              clear d0 d1 d2 HB hs hb1 HO2 k1 k2 hfz
              generalize wr.drewN nq = wq at *
              go_wp2_with (at_builtin; refine wpList_append_own _ rfl _ _ 23 rfl w.heap.size 72 i0 (.agg #[.int .i64 0, .int .i64 0, .int .i64 0]) 3 24 Tryz.underlying23 hi hz0 hz1 hz2 rfl (by decide) _ _ _ rfl (HOO.out.alloc _) ⟨wq.heap.size, 0, none⟩ 1 1 [.int .i64 lo, .int .i64 hi', .int .i64 nm] rfl rfl (cell3p_new _ _ _ _ _) (by simp [Value.oneCell']) (by unfold maxLen; omega) (by omega) (by simp; omega) ?_; intro v1 w1 hown' hgrow _; have R := ownP_snoc (w := w) (us := o' ++ [(ul, uh, un)]) (u := (lo, hi', nm)) (n := m + 1) HLe.out.symm (show OwnP wq _ _ (o' ++ [(ul, uh, un)]) by unfold OwnP; rw [HLe.out]; exact HOO.out) (by simpa using hown') hgrow HBq.out (Nat.le_refl _); have HR1 := hid0 R; clear hown' hgrow R)
              go_roundw
              case rel => exact ⟨k + 1, o' ++ [(ul, uh, un)] ++ [(lo, hi', nm)], by omega, by go_num, hid0 HN.out.symm, by { have := HLe.out; rw [List.length_append, this]; simp; omega }, hid0 (by rw [← HN.out]; exact HLn.out), HR1.out.1, fun h => by simp at h, HR1.out.2⟩
              case measure => simp [intOf]; omega
    · have hkI : ¬ (k : Int) < (l.length : Int) := by omega
      have HN : Hid (o = joinL l) := hid0 (by rw [HJ.out, List.take_of_length_le (by omega)])
      clear HJ
      go_wp2
      go_ret
      exact ⟨_, rfl, by rw [← HN.out]; exact HO.out, HB.out⟩
end Go.Proofs.YthdmhelgmejicaaGreatDoor
