/-
  LoSW, LoAW, LoM, LoLW.
-/
import Derived.Test.YtbdjnmbhphflbaaGreatDoorMf
import Derived.Deep.RegionHeld3
namespace Go.Proofs.YtbdjnmbhphflbaaGreatDoor
open Go.RowKit Go.Shelf Go.Lib
set_option maxRecDepth 10000 in
set_option maxHeartbeats 800000 in
theorem lawSection_any (L : List Sec) (a : Option Addr) (c : Nat) (t : ByteArray) (w : World) (hl : L.length ≤ 1000000) (ha : XA w a L) :
    Calls Tryz.prog 17 #[.agg #[.slice a L.length c], .string t] w fun e w' => (∃ ae ce, e = .returned (.slice ae (edOf L t).length ce) ∧ EA w' ae (edOf L t)) ∧ Below w.heap.size w w' := by
  obtain ⟨wa, hwa⟩ : ∃ wa, wa = w.alloc (.cells #[.slice a L.length c] 24) := ⟨_, rfl⟩
  have b0a : Below w.heap.size w wa := by rw [hwa]; exact (Below.refl _ _).alloc (Nat.le_refl _) _
  have r0 : wa.heap[w.heap.size]? = some (.cells #[.slice a L.length c] 24 (0, 0)) := by rw [hwa]; exact heap_alloc_new w _
  have x0 : wa.cell? ⟨w.heap.size, 0, none⟩ = some (.slice a L.length c) := by rw [cell_of_row _ _ _ _ _ _ r0]; rfl
  have HA := hid0 (ha.later b0a)
  have HB := hid0 b0a
  have hf1 := hwa.symm
  clear ha hwa b0a r0
  go_enter Tryz.func17, Tryz.ntmps17
  go_wp2
  go_loop [5] (fun v => ∃ k : Nat, k ≤ L.length ∧ v = .int .i64 (k : Int) ∧ Hid (∀ j (h : j < L.length), j < k → L[j].loc ≠ t)) (fun v => L.length - (intOf v).toNat)
  case atStart => exact ⟨0, Nat.zero_le _, rfl, hid0 (fun j _ h => absurd h (Nat.not_lt_zero _))⟩
  case round =>
    obtain ⟨k, hk, rfl, HK⟩ := hrel
    by_cases hlt : k < L.length
    · have hkI : (k : Int) < (L.length : Int) := by omega
      have hk0 : (0 : Int) ≤ (k : Int) := by omega
      obtain ⟨b, off, ae, ce, rfl, hbl, c0, c1, c2, hea⟩ := HA.out.at' k hlt
      have hse := str_eq L[k].loc t
      by_cases e : L[k].loc = t
      · have HV : Hid (edOf L t = L[k].ed) := hid0 (by rw [edOf, secOf_at hlt e HK.out])
        have HEA := hid0 hea
        rw [decide_eq_true e] at hse
        clear HK e hea
        generalize L[k].loc = m at *
        generalize L[k].ed = ed at *
        go_wp2
        go_ret
        exact ⟨⟨ae, ⟨ce, by rw [HV.out]; rfl⟩, by rw [HV.out]; exact HEA.out⟩, HB.out⟩
      · have HK2 : Hid (∀ j (h : j < L.length), j < k + 1 → L[j].loc ≠ t) := hid0 (fun j h hj => by
          by_cases q : j = k
          · subst q; exact e
          · exact HK.out j h (by omega))
        rw [decide_eq_false e] at hse
        clear HK e hea
        generalize L[k].loc = m at *
        go_wp2
        go_round
        case rel => exact ⟨k + 1, by omega, by go_num, HK2⟩
        case measure => simp [intOf]; omega
    · have hkI : ¬ (k : Int) < (L.length : Int) := by omega
      have HV : Hid (edOf L t = []) := hid0 (by rw [edOf, secOf_none (fun j h => HK.out j h (by omega))])
      clear HK
      go_wp2
      go_ret
      exact ⟨⟨none, ⟨0, by rw [HV.out]; rfl⟩, by rw [HV.out]; exact ⟨fun k h => absurd h (Nat.not_lt_zero _)⟩⟩, HB.out⟩
/-- A list without a text. -/
noncomputable def outL (l : List ByteArray) (s : ByteArray) : List ByteArray := l.filter fun x => decide (¬ x = s)
theorem outL_le (l : List ByteArray) (s : ByteArray) : (outL l s).length ≤ l.length := List.length_filter_le _ _
theorem mem_outL (l : List ByteArray) (s x : ByteArray) : x ∈ outL l s ↔ x ∈ l ∧ ¬ x = s := by simp [outL]
theorem outL_snoc (l : List ByteArray) (s x : ByteArray) : outL (l ++ [x]) s = outL l s ++ if x = s then [] else [x] := by
  unfold outL
  rw [List.filter_append]
  by_cases h : x = s <;> simp [h]
set_option maxRecDepth 10000 in
set_option maxHeartbeats 1600000 in
theorem without_law (l : List ByteArray) (a : Option Addr) (ca : Nat) (s : ByteArray) (w : World) (hl : l.length ≤ 1000000000) (ha : SA w a l) :
    Calls Tryz.prog 19 #[.slice a l.length ca, .string s] w fun e w' => (∃ v, e = .returned v ∧ OwnS w' w.heap.size v (outL l s)) ∧ Below w.heap.size w w' := by
  obtain ⟨i0, hi, hz0, hz1, hz2⟩ := info_parts infoStr
  have HA := hid0 ha
  clear ha
  go_enter Tryz.func19, Tryz.ntmps19
  go_wp2
  go_loopw [5, 6] (fun v i wr => ∃ k : Nat, k ≤ l.length ∧ i = .int .i64 (k : Int) ∧ Hid (OwnS wr w.heap.size v (outL (l.take k) s)) ∧ Hid (Below w.heap.size w wr)) (fun _ i _ => l.length - (intOf i).toNat)
  case atStart => exact ⟨0, Nat.zero_le _, rfl, hid0 (World.ownsRow_nil _ _ _ _), hid0 (Below.refl _ _)⟩
  case round =>
    obtain ⟨k, hk, rfl, HO, HB⟩ := hrel
    by_cases hlt : k < l.length
    · have hbs := HB.out.size
      have hkI : (k : Int) < (l.length : Int) := by omega
      have hk0 : (0 : Int) ≤ (k : Int) := by omega
      have htk : l.take (k + 1) = l.take k ++ [l[k]] := by rw [List.take_add_one, List.getElem?_eq_getElem hlt]; rfl
      have HX : Hid (outL (l.take (k + 1)) s = outL (l.take k) s ++ if l[k] = s then [] else [l[k]]) := hid0 (by rw [htk, outL_snoc])
      have hxl : (outL (l.take k) s).length ≤ k := Nat.le_trans (outL_le _ _) (by rw [List.length_take]; omega)
      obtain ⟨b, off, rfl, hbl, c0⟩ := (HA.out.below HB.out).at' k hlt
      have hse := str_eq l[k] s
      clear htk
      generalize outL (l.take k) s = X at *
      by_cases e : l[k] = s
      · rw [decide_eq_true e] at hse
        have hsn : (l[k].toList != s.toList) = false := by rw [bne, hse]; rfl
        rw [if_pos e, List.append_nil] at HX
        have HO4 := HO
        rw [← HX.out] at HO4
        clear e HX HO
        generalize l[k] = m at *
        go_wp2
        go_roundw
        case rel => exact ⟨k + 1, by omega, by go_num, HO4, HB⟩
        case measure => simp [intOf]; omega
      · rw [decide_eq_false e] at hse
        have hsn : (l[k].toList != s.toList) = true := by rw [bne, hse]; rfl
        rw [if_neg e] at HX
        clear e
        generalize l[k] = m at *
        go_wp2_with (first
          | (at_builtin; refine wpList_append_own _ rfl _ _ 31 rfl w.heap.size 9 i0 (.string ⟨#[]⟩) 1 16 Tryz.underlying31 hi hz0 hz1 hz2 rfl (by decide) _ _ _ rfl (World.ownsRow.alloc HO.out _) ⟨_, 0, none⟩ 1 1 [.string m] rfl rfl (cell_one_new _ _ _) ?c2b ?c3b ?c4b ?c5b ?_)
          | fail)
        case c2b => simp [Value.oneCell']
        case c3b => unfold maxLen; omega
        case c4b => omega
        case c5b => simp; omega
        intro v2 w4 hown' hgrow _
        obtain ⟨g1, g2⟩ := owns_snoc (base := w.heap.size) (L := X) (c := m) (n := X.length) rfl HO.out hown' hgrow HB.out (Nat.le_refl _)
        have HO4 : Hid (OwnS w4 w.heap.size v2 (outL (l.take (k + 1)) s)) := hid0 (by rw [HX.out]; exact g1)
        have HB4 := hid0 g2
        clear hown' hgrow g1 g2 HO HB HX
        go_wp2
        go_roundw
        case rel => exact ⟨k + 1, by omega, by go_num, HO4, HB4⟩
        case measure => simp [intOf]; omega
    · have hkI : ¬ (k : Int) < (l.length : Int) := by omega
      rw [List.take_of_length_le (show l.length ≤ k by omega)] at HO
      go_wp2
      go_ret
      exact ⟨⟨_, rfl, HO.out⟩, HB.out⟩
set_option maxRecDepth 10000 in
set_option maxHeartbeats 800000 in
theorem with_law (l : List ByteArray) (a : Option Addr) (ca : Nat) (s : ByteArray) (w : World) (hl : l.length ≤ 1000000000) (ha : SA w a l) :
    Calls Tryz.prog 18 #[.slice a l.length ca, .string s] w fun e w' => (∃ v, e = .returned v ∧ OwnS w' w.heap.size v (outL l s ++ [s])) ∧ Below w.heap.size w w' := by
  obtain ⟨i0, hi, hz0, hz1, hz2⟩ := info_parts infoStr
  have HW := hid0 (without_law l a ca s w hl ha)
  have hol := outL_le l s
  generalize outL l s = X at *
  go_enter Tryz.func18, Tryz.ntmps18
  go_wp2_with (first
    | (go_at_call 19; refine HW.out.mono ?_; rintro e w1 ⟨⟨v1, rfl, ho1⟩, hb1⟩; have HO1 := hid0 ho1; have HB1 := hid0 hb1; have hbs := hb1.size; clear ho1 hb1)
    | (at_builtin; refine wpList_append_own _ rfl _ _ 31 rfl w.heap.size 9 i0 (.string ⟨#[]⟩) 1 16 Tryz.underlying31 hi hz0 hz1 hz2 rfl (by decide) _ _ _ rfl (World.ownsRow.alloc HO1.out _) ⟨_, 0, none⟩ 1 1 [.string s] rfl rfl (cell_one_new _ _ _) ?c2b ?c3b ?c4b ?c5b ?_)
    | fail)
  case c2b => simp [Value.oneCell']
  case c3b => unfold maxLen; omega
  case c4b => omega
  case c5b => simp; omega
  intro v2 w4 hown' hgrow _
  obtain ⟨g1, g2⟩ := owns_snoc (base := w.heap.size) (L := X) (c := s) (n := X.length) rfl HO1.out hown' hgrow HB1.out (Nat.le_refl _)
  clear hown' hgrow
  go_wp2
  go_ret
  exact ⟨⟨_, rfl, g1⟩, g2⟩
end Go.Proofs.YtbdjnmbhphflbaaGreatDoor
namespace Go.Proofs.YtbdjnmbhphflbaaGreatDoor
open Go.RowKit Go.Shelf Go.Lib
theorem outL_lt {l : List ByteArray} {s : ByteArray} (h : s ∈ l) : (outL l s).length < l.length := by
  have h1 := outL_le l s
  by_cases e : (outL l s).length = l.length
  · have h2 := List.length_filter_eq_length_iff.1 e s h
    simp at h2
  · omega
theorem rising_at {r : List ByteArray} (h : Rising r) {m : Nat} (hm : m + 1 < r.length) : Op.bytesLess r[m].toList r[m + 1].toList = true := by
  have h1 := List.pairwise_iff_getElem.1 h m (m + 1) (by omega) hm (by omega)
  rw [ByteArray.toList_eq, ByteArray.toList_eq, bytesLess_eq]
  simpa using h1
set_option maxRecDepth 10000 in
set_option maxHeartbeats 1600000 in
theorem alike_law (r l : List ByteArray) (n : Nat) (ar al : Option Addr) (cr cl : Nat) (w : World) (hn : n ≤ 1000000000) (hr : r.length = n) (hl : l.length = n) (hRi : Rising r) (hm : ∀ x ∈ r, x ∈ l) (har : SA w ar r) (hal : SA w al l) :
    Calls Tryz.prog 20 #[.slice ar n cr, .slice al n cl] w fun e w' => e = .returned (.bool true) ∧ Below w.heap.size w w' := by
  have HR := hid0 hr
  have HAR := hid0 har
  have HRi := hid0 hRi
  have HW : Hid (∀ x ∈ r, ∀ W : World, Below w.heap.size w W → Calls Tryz.prog 19 #[.slice al n cl, .string x] W fun e w' => (∃ (a' : Option Addr) (m c' : Nat), e = .returned (.slice a' m c') ∧ (m : Int) < (n : Int)) ∧ Below W.heap.size W w') := hid0 (fun x hx W hW => by
    have h := without_law l al cl x W (by omega) (hal.below hW)
    rw [hl] at h
    refine h.mono ?_
    rintro e w' ⟨⟨v, rfl, ho⟩, hb⟩
    obtain ⟨a', c', rfl, _⟩ := ho.sa
    have := outL_lt (hm x hx)
    exact ⟨⟨a', _, c', rfl, by omega⟩, hb⟩)
  clear hr hl hRi hm har hal
  go_enter Tryz.func20, Tryz.ntmps20
  go_wp2
  go_loopw [5] (fun i wr => ∃ k : Nat, k ≤ n ∧ i = .int .i64 (k : Int) ∧ Hid (Below w.heap.size w wr)) (fun i _ => n - (intOf i).toNat)
  case atStart => exact ⟨0, Nat.zero_le _, rfl, hid0 (Below.refl _ _)⟩
  case round =>
    obtain ⟨k, hk, rfl, HB⟩ := hrel
    by_cases hlt : k < n
    · have hkr : k < r.length := by rw [HR.out]; exact hlt
      have hkI : (k : Int) < (n : Int) := by omega
      have hk0 : (0 : Int) ≤ (k : Int) := by omega
      obtain ⟨b, off, rfl, hbl, c0⟩ := (HAR.out.below HB.out).at' k hkr
      have HD : Hid (∀ N, Below w.heap.size w (wr.drewN N)) := hid0 (fun N => Below.later HB.out ⟨rfl, rfl, rfl, Nat.le_refl _, fun _ _ => rfl⟩)
      have HWk := hid0 (fun N => HW.out r[k] (List.getElem_mem hkr) (wr.drewN N) (HD.out N))
      cases k with
      | zero =>
        rw [Nat.add_zero] at c0
        generalize r[0] = x at *
        clear hkr
        go_wp2
        go_quiet ((fail))
        go_wp2_with (first
          | (go_at_call 19; refine (HWk.out _).mono ?_; rintro e w1 ⟨⟨a', m, c', rfl, hmn⟩, hb1⟩; have HB1 := hid0 (Below.later (HD.out _) hb1); clear hb1)
          | fail)
        go_roundw
        case rel => exact ⟨1, by omega, by go_num, HB1⟩
        case measure => simp [intOf]; omega
      | succ m =>
        have hlm : m < r.length := by omega
        obtain ⟨b2, off2, hq, _, c1⟩ := (HAR.out.below HB.out).at' m hlm
        obtain ⟨rfl, rfl⟩ : b2 = b ∧ off2 = off := by injection hq with hq; injection hq with h1 h2 h3; exact ⟨h1.symm, h2.symm⟩
        have hge := rising_at HRi.out hkr
        have hsub : ((m + 1 : Nat) : Int) - 1 = (m : Int) := by omega
        have hm0 : (0 : Int) ≤ (m : Int) := by omega
        have hmI : (m : Int) < (n : Int) := by omega
        have hpos : (0 : Int) < ((m + 1 : Nat) : Int) := by omega
        generalize r[m + 1] = x at *
        generalize r[m] = y at *
        clear hkr hlm hq
        go_wp2
        go_quiet ((fail))
        go_wp2_with (first
          | (go_at_call 19; refine (HWk.out _).mono ?_; rintro e w1 ⟨⟨a', m', c', rfl, hmn⟩, hb1⟩; have HB1 := hid0 (Below.later (HD.out _) hb1); clear hb1)
          | fail)
        go_roundw
        case rel => exact ⟨m + 1 + 1, by omega, by go_num, HB1⟩
        case measure => simp [intOf]; omega
    · have hkI : ¬ (k : Int) < (n : Int) := by omega
      go_wp2
      go_ret
      exact ⟨rfl, HB.out⟩
end Go.Proofs.YtbdjnmbhphflbaaGreatDoor
namespace Go.Proofs.YtbdjnmbhphflbaaGreatDoor
open Go.RowKit Go.Shelf Go.Lib
theorem join_snoc : ∀ (qs : List (List UInt8)) (q : List UInt8), qs ≠ [] → joinU (qs ++ [q]) = joinU qs ++ 95 :: q
  | [], _, h => absurd rfl h
  | [p], q, _ => by rw [List.singleton_append, joinU_cons, joinU_one, joinU_one]
  | p :: p2 :: r, q, _ => by
    have ih := join_snoc (p2 :: r) q (by simp)
    rw [List.cons_append] at ih
    rw [List.cons_append, List.cons_append, joinU_cons, joinU_cons, ih]
    simp
theorem at_list (s : ByteArray) (k : Nat) (h : k < s.size) : ((s.data[k]!).toNat : Int) = 95 ↔ s.data.toList[k]? = some 95 := by
  rw [byte_bang s k h, bget s k h]
  constructor
  · intro e
    have : s[k] = 95 := UInt8.toNat_inj.1 (by have : (95 : UInt8).toNat = 95 := rfl; omega)
    rw [this]
  · intro e
    have := Option.some.inj e
    rw [this]; rfl
theorem last_none {l : List UInt8} (h : ∀ b ∈ l, b ≠ 95) : Lib.lastIndexByte (strOf l) 95 = -1 := by
  rcases Lib.lastIndexByte_spec (strOf l) 95 with ⟨e, _⟩ | ⟨i, hi, e, hb, _⟩
  · exact e
  · have h2 := (at_list (strOf l) i hi).1 hb
    rw [strOf_data] at h2
    exact absurd rfl (h 95 (List.mem_of_getElem? h2))
theorem last_at {l q : List UInt8} (h : ∀ b ∈ q, b ≠ 95) : Lib.lastIndexByte (strOf (l ++ 95 :: q)) 95 = (l.length : Int) := by
  have hsz : (strOf (l ++ 95 :: q)).size = l.length + 1 + q.length := by rw [strOf_size]; simp; omega
  have h0 : (strOf (l ++ 95 :: q)).data.toList[l.length]? = some 95 := by rw [strOf_data]; simp
  rcases Lib.lastIndexByte_spec (strOf (l ++ 95 :: q)) 95 with ⟨_, hn⟩ | ⟨i, hi, e, hb, hn⟩
  · exact absurd ((at_list _ _ (by omega)).2 h0) (hn l.length (by omega))
  · rw [e]
    by_cases h1 : i < l.length
    · exact absurd ((at_list _ _ (by omega)).2 h0) (hn l.length h1 (by omega))
    · by_cases h2 : i = l.length
      · rw [h2]
      · have h3 := (at_list _ i hi).1 hb
        rw [strOf_data, List.getElem?_append_right (by omega)] at h3
        obtain ⟨k, hk⟩ : ∃ k, i - l.length = k + 1 := ⟨i - l.length - 1, by omega⟩
        rw [hk, List.getElem?_cons_succ] at h3
        exact absurd rfl (h 95 (List.mem_of_getElem? h3))
theorem N_ne (b : UInt8) (h : isN b = true) : b ≠ 95 := fun e => by
  have := N_sep b h
  rw [e] at this
  exact absurd this (by decide)
theorem root_tag : tagF rootB.data.toList = some rootB.data.toList := by decide
/-- What is left of a tag's one form, when its last piece is cut off, is a one form. -/
theorem tagF_cut {t c : List UInt8} (h : tagF t = some c) : tagF (cutB (strOf c)).data.toList = some (cutB (strOf c)).data.toList := by
  obtain ⟨hl, hv, _, hc⟩ := tagF_le h
  have hN := canonP_N (pieces_of_fine t (validP_fine hv))
  have hne := canonP_ne (pieces_ne t)
  have hv2 := hv
  rw [← validP_canon] at hv2
  have htw := canonP_twice (pieces t)
  generalize canonP (pieces t) = ps at *
  rcases List.eq_nil_or_concat ps with rfl | ⟨qs, q, rfl⟩
  · exact absurd rfl hne
  · rw [List.concat_eq_append] at *
    have hq : ∀ b ∈ q, b ≠ 95 := fun b hb => N_ne b (hN q (by simp) b hb)
    by_cases hqs : qs = []
    · subst hqs
      rw [List.nil_append, joinU_one] at hc
      subst hc
      rw [cutB, last_none hq]
      exact root_tag
    · rw [join_snoc qs q hqs] at hc
      have hla := last_at (l := joinU qs) hq
      rw [← hc] at hla
      obtain ⟨p, r, rfl⟩ : ∃ p r, qs = p :: r := by cases qs with | nil => exact absurd rfl hqs | cons p r => exact ⟨p, r, rfl⟩
      have hns : ∀ p' ∈ p :: r, ∀ b ∈ p', isSep b = false := fun p' hp b hb => N_sep b (hN p' (List.mem_append_left _ hp) b hb)
      have hpj := pieces_join (p :: r) (by simp) hns
      simp only [validP, List.cons_append, List.headD_cons, Bool.and_eq_true] at hv2
      have hp2 := of_decide_eq_true hv2.1.2
      have hpl : 0 < (joinU (p :: r)).length := by
        rcases r with _ | ⟨r1, r⟩
        · rw [joinU_one]; omega
        · rw [joinU_cons]; simp; omega
      have hcut : (cutB (strOf c)).data.toList = joinU (p :: r) := by
        rw [cutB, hla, if_neg (by omega)]
        rw [Int.toNat_natCast]
        have : ((strOf c).extract 0 (joinU (p :: r)).length).data.toList = c.take (joinU (p :: r)).length := by
          rw [ByteArray.data_extract]; simp [strOf]
        rw [this, hc, List.take_left']
        rfl
      rw [hcut]
      unfold tagF
      rw [hpj, if_pos]
      · congr 1
        simp only [List.cons_append, canonP, List.map_append, List.cons.injEq] at htw
        obtain ⟨e1, e2⟩ := htw
        have e3 := (List.append_inj e2 (by simp)).1
        rw [canonP, e1, e3]
      · refine ⟨by rw [hc] at hl; simp at hl; omega, ?_⟩
        simp only [validP, List.headD_cons, Bool.and_eq_true]
        obtain ⟨⟨⟨a1, a2⟩, a3⟩, a4⟩ := hv2
        refine ⟨⟨⟨?_, a2⟩, a3⟩, ?_⟩
        · rw [List.all_eq_true] at a1 ⊢
          exact fun x hx => a1 x (by rw [← List.cons_append]; exact List.mem_append_left _ hx)
        · have : (p.map lowerB == rootL) = false := by
            simp only [Bool.not_eq_true', Bool.and_eq_false_iff] at a4
            rcases a4 with h | h
            · exact h
            · simp at h
          rw [this]; rfl
theorem tag_self {t c : List UInt8} (h : tagF t = some c) : tagF c = some c := by
  unfold tagF at h
  split at h
  · rename_i hv
    obtain rfl := Option.some.inj h
    rw [tagF_form (validP_fine hv.2) hv.1, if_pos hv.2]
  · cases h
/-- A text that is its own one form. -/
def Cn (x : ByteArray) : Prop := tagF x.data.toList = some x.data.toList
theorem cn_cut {x : ByteArray} (h : Cn x) : Cn (cutB x) := by
  have := tagF_cut h
  rw [strOf_self] at this
  exact this
theorem cn_par {E : ByteArray → Option Nat} {L : List Sec} (h : chkE E L = none) {t : ByteArray} (ht : Cn t) : Cn (parL L t) := by
  unfold parL
  cases hq : secOf L t with
  | none => exact cn_cut ht
  | some s =>
    simp only
    split
    · exact cn_cut ht
    · rename_i hp
      have h1 := par_ok h s (List.mem_of_find?_eq_some hq) (by simpa using hp)
      unfold isTagB at h1
      have h2 := of_decide_eq_true h1
      exact h2
theorem go_more (L : List Sec) : ∀ (f : Nat) (ch : List ByteArray) (last : ByteArray) (c : List ByteArray), chainGo L f ch last = .ok c → ∃ r, c = ch ++ r
  | 0, _, _, _, h => by cases h
  | f + 1, ch, last, c, h => by
    rw [chainGo] at h
    split at h
    · cases h; exact ⟨[], by simp⟩
    · split at h
      · cases h
      · split at h
        · cases h
        · obtain ⟨r, rfl⟩ := go_more L f _ _ c h
          exact ⟨parL L last :: r, by simp⟩
theorem go_root (L : List Sec) : ∀ (f : Nat) (ch : List ByteArray) (last : ByteArray) (c : List ByteArray), chainGo L f (ch ++ [last]) last = .ok c → ∃ r x, c = r ++ [x] ∧ (x.toList == [114, 111, 111, 116]) = true
  | 0, _, _, _, h => by cases h
  | f + 1, ch, last, c, h => by
    rw [chainGo] at h
    split at h
    · rename_i hr
      cases h; exact ⟨ch, last, rfl, hr⟩
    · split at h
      · cases h
      · split at h
        · cases h
        · exact go_root L f (ch ++ [last]) (parL L last) c h
theorem go_len (L : List Sec) : ∀ (f : Nat) (ch : List ByteArray) (last : ByteArray) (c : List ByteArray), ch.length ≤ 16 → chainGo L f ch last = .ok c → c.length ≤ 16
  | 0, _, _, _, _, h => by cases h
  | f + 1, ch, last, c, hl, h => by
    rw [chainGo] at h
    split at h
    · cases h; exact hl
    · split at h
      · cases h
      · split at h
        · cases h
        · exact go_len L f _ _ c (by simp; omega) h
theorem go_tail (L : List Sec) (x : ByteArray) : ∀ (f g : Nat) (ch : List ByteArray) (last : ByteArray) (c : List ByteArray), f ≤ g → ch.length ≤ 15 → chainGo L f (x :: ch) last = .ok c → ∃ tl, c = x :: tl ∧ chainGo L g ch last = .ok tl
  | 0, _, _, _, _, _, _, h => by cases h
  | f + 1, g, ch, last, c, hg, hl, h => by
    obtain ⟨g, rfl⟩ : ∃ g', g = g' + 1 := ⟨g - 1, by omega⟩
    rw [chainGo] at h ⊢
    split at h
    · rename_i hr
      rw [if_pos hr]
      cases h; exact ⟨ch, rfl, rfl⟩
    · rename_i hr
      rw [if_neg hr]
      split at h
      · cases h
      · rename_i hc
        have hc2 : ¬ Lib.containsS ch (parL L last) = true := fun e => hc ((Lib.containsS_iff _ _).2 (List.mem_cons_of_mem _ ((Lib.containsS_iff _ _).1 e)))
        rw [if_neg hc2]
        split at h
        · cases h
        · rename_i h6
          rw [if_neg (by omega)]
          exact go_tail L x f g (ch ++ [parL L last]) (parL L last) c (by omega) (by simp at h6 ⊢; omega) h
/-- A chain's parts. -/
theorem chain_parts {L : List Sec} {t : ByteArray} {c : List ByteArray} (h : chainF L t = .ok c) : chkE entE L = none ∧ c.length ≤ 16 ∧ (∃ r x, c = r ++ [x] ∧ (x.toList == [114, 111, 111, 116]) = true) ∧
    ∃ c0 tl, c = c0 :: tl ∧ (tl = [] ∨ ∃ p r, tl = p :: r ∧ chainF L p = .ok tl) := by
  unfold chainF at h
  split at h
  · cases h
  · rename_i hk
    split at h
    · cases h
    · rename_i d hd
      have hcn : Cn (strOf d) := by unfold Cn; rw [strOf_data]; exact tag_self hd
      refine ⟨hk, go_len L 17 _ _ c (by simp) h, go_root L 17 [] _ c h, ?_⟩
      generalize strOf d = x at *
      rw [chainGo] at h
      split at h
      · cases h; exact ⟨x, [], rfl, .inl rfl⟩
      · split at h
        · cases h
        · split at h
          · cases h
          · obtain ⟨tl, rfl, ht⟩ := go_tail L x 16 17 [parL L x] (parL L x) c (by omega) (by simp) h
            refine ⟨x, tl, rfl, .inr ?_⟩
            obtain ⟨r, hr⟩ := go_more L 17 _ _ tl ht
            refine ⟨parL L x, r, hr, ?_⟩
            have hp : Cn (parL L x) := cn_par hk hcn
            unfold chainF
            rw [hk, hp]
            show chainGo L 17 [strOf (parL L x).data.toList] (strOf (parL L x).data.toList) = _
            rw [strOf_self]
            exact ht
/-- What a list comes to, edit by edit. -/
noncomputable def stepE (H : List ByteArray) (e : Bool × ByteArray) : List ByteArray := if e.1 = true then outL H e.2 ++ [e.2] else outL H e.2
/-- A list that holds each entry once, just where the last edit says so. -/
structure Holds (H : List ByteArray) (eds : List (Bool × ByteArray)) : Prop where
  nd : H.Nodup
  mem : ∀ x, x ∈ H ↔ lastE eds x = some true
theorem Holds.step {H : List ByteArray} {eds : List (Bool × ByteArray)} (h : Holds H eds) (e : Bool × ByteArray) : Holds (stepE H e) (eds ++ [e]) := by
  have hno : (outL H e.2).Nodup := h.nd.filter _
  constructor
  · unfold stepE
    split
    · rw [List.nodup_append]
      refine ⟨hno, by simp, fun a ha b hb => ?_⟩
      rw [List.mem_singleton] at hb
      subst hb
      exact ((mem_outL _ _ _).1 ha).2
    · exact hno
  · intro x
    rw [lastE_snoc]
    by_cases hx : e.2 = x
    · subst hx
      rw [if_pos rfl]
      unfold stepE
      split
      · rename_i h1; simp [h1]
      · rename_i h1; simp [mem_outL, h1]
    · rw [if_neg hx, ← h.mem x]
      have hx2 : ¬ x = e.2 := fun q => hx q.symm
      unfold stepE
      split
      · simp [mem_outL, hx2]
      · simp [mem_outL, hx2]
theorem stepE_le (H : List ByteArray) (e : Bool × ByteArray) : (stepE H e).length ≤ H.length + 1 := by
  have := outL_le H e.2
  unfold stepE
  split
  · simp; omega
  · omega
/-- Two lists that hold the same are as long. -/
theorem Holds.same {H l : List ByteArray} {eds : List (Bool × ByteArray)} (h : Holds H eds) (hr : Rising l) (hm : ∀ x, x ∈ l ↔ lastE eds x = some true) : l.length = H.length ∧ ∀ x ∈ l, x ∈ H := by
  have hp : l.Perm H := (List.perm_ext_iff_of_nodup (rising_nodup hr) h.nd).2 (fun x => by rw [hm x, h.mem x])
  exact ⟨hp.length_eq, fun x hx => hp.mem_iff.1 hx⟩
theorem eds_cons (L : List Sec) (x : ByteArray) (tl : List ByteArray) : edsF L (x :: tl) = edsF L tl ++ edOf L x := by
  unfold edsF
  simp
end Go.Proofs.YtbdjnmbhphflbaaGreatDoor
namespace Go.Proofs.YtbdjnmbhphflbaaGreatDoor
open Go.RowKit Go.Shelf Go.Lib
theorem eql_same (w : World) (p : Addr) : (binOp .eql 33 (.iface 192 (.pointer (some p))) (.iface 192 (.pointer (some p)))).run Tryz.prog w = .ok (.bool true) w := by
  obtain ⟨ti, h1, h2⟩ := Option.map_eq_some_iff.1 compErr
  obtain ⟨tj, h3, h4⟩ := Option.map_eq_some_iff.1 sizeErr
  exact run_eql_iface_ptr_same w p Tryz.underlying33 Tryz.underlying192 h1 h2 h3
theorem holds_nil : Holds [] [] := ⟨List.nodup_nil, fun x => by simp [lastE]⟩
theorem holds_all {H : List ByteArray} {e0 : List (Bool × ByteArray)} (h : Holds H e0) : ∀ (ed : List (Bool × ByteArray)), ∃ H', Holds H' (e0 ++ ed)
  | [] => ⟨H, by rw [List.append_nil]; exact h⟩
  | e :: ed => by
    obtain ⟨H', h'⟩ := holds_all (h.step e) ed
    exact ⟨H', by rw [List.append_assoc] at h'; exact h'⟩
theorem holds_ex (ed : List (Bool × ByteArray)) : ∃ H, Holds H ed := holds_all holds_nil ed
/-- Resolve's answer, where the list's length is known. -/
theorem goRes {A : Nat → Addr} {base : Nat} {w' : World} {L : List Sec} {s : ByteArray} {e : Ending} {cc H : List ByteArray} (h : GoResolve A base w' L s e) (hc : chainF L s = .ok cc) (hH : Holds H (edsF L cc)) :
    (2000 < H.length → e = .returned (.tuple #[.slice none 0 0, .iface 192 (.pointer (some (A 2)))])) ∧
    (¬ 2000 < H.length → ∃ a1 k1 l, e = .returned (.tuple #[.slice a1 H.length k1, .nilIface]) ∧ SA w' a1 l ∧ Rising l ∧ l.length = H.length ∧ ∀ x, x ∈ l ↔ lastE (edsF L cc) x = some true) := by
  unfold GoResolve at h
  rw [hc] at h
  obtain ⟨v, l, ho, hr, hm, rfl⟩ := h
  obtain ⟨hle, _⟩ := hH.same hr hm
  rw [hle]
  constructor
  · intro h2
    rw [if_pos h2]
  · intro h2
    rw [if_neg h2]
    obtain ⟨a1, k1, rfl, hs, _⟩ := ho.sa
    exact ⟨a1, k1, l, by rw [hle], hs, hr, hle, hm⟩
theorem goBad {A : Nat → Addr} {base : Nat} {w' : World} {L : List Sec} {s : ByteArray} {e : Ending} {i : Nat} (h : GoResolve A base w' L s e) (hc : chainF L s = .bad i) : e = .returned (.tuple #[.slice none 0 0, .iface 192 (.pointer (some (A i)))]) := by
  unfold GoResolve at h
  rw [hc] at h
  exact h
set_option maxRecDepth 10000 in
set_option maxHeartbeats 6400000 in
theorem localeFolds_any (A : Nat → Addr) (L : List Sec) (a : Option Addr) (c : Nat) (t : ByteArray) (w : World) (hl : L.length ≤ 1000000) (hc : L.length ≤ c) (hb : ∀ s ∈ L, s.ed.length ≤ 100000000) (hz : ∀ s ∈ L, ∀ e ∈ s.ed, e.2.size ≤ 140737488355328) (hE : Env A w) (ha : XA w a L) :
    Calls Tryz.prog 5 #[.agg #[.slice a L.length c, .string t]] w fun e w' => e = .returned (.bool true) ∧ Below w.heap.size w w' := by
  obtain ⟨w0, hw0⟩ : ∃ w0, w0 = w.alloc (.cells #[.slice a L.length c, .string t] 47) := ⟨_, rfl⟩
  have hs0 : w0.heap.size = w.heap.size + 1 := by rw [hw0]; simp
  have hB0 : Below w.heap.size w w0 := by rw [hw0]; exact (Below.refl _ _).alloc (Nat.le_refl _) _
  have hX0 : w0.heap[w.heap.size]? = some (.cells #[.slice a L.length c, .string t] 47 (0, 0)) := by rw [hw0]; exact heap_alloc_new w _
  have HX : Hid (∀ W, Below w0.heap.size w0 W → W.cell? ⟨w.heap.size, 0, none⟩ = some (.slice a L.length c) ∧ W.cell? ⟨w.heap.size, 1, none⟩ = some (.string t)) := hid0 (fun W hW => by
    have hr := (hW.block w.heap.size (by omega)).trans hX0
    exact ⟨by rw [cell_of_row _ _ _ _ _ _ hr]; rfl, by rw [cell_of_row _ _ _ _ _ _ hr]; rfl⟩)
  obtain ⟨x0, x1⟩ := HX.out w0 (Below.refl _ _)
  have HE : Hid (∀ W, Below w0.heap.size w0 W → Env A W) := hid0 (fun W hW => (hE.below hB0).below hW)
  have HXA : Hid (∀ W, Below w0.heap.size w0 W → XA W a L) := hid0 (fun W hW => (ha.later hB0).later hW)
  have hbC : ∀ s ∈ L, s.ed.length ≤ 140737488355328 := fun s hs => Nat.le_trans (hb s hs) (by decide)
  have hbR : ∀ s ∈ L, s.ed.length ≤ 1000000000 := fun s hs => Nat.le_trans (hb s hs) (by decide)
  have HKn := hid0 (known_any A w0 (hE.below hB0))
  have HCh : Hid (∀ W : World, Below w0.heap.size w0 W → Calls Tryz.prog 9 #[.agg #[.slice a L.length c], .string t] W fun e w' => GoChain A W.heap.size w' (chainF L t) e ∧ Below w0.heap.size w0 w') := hid0 (fun W hW => (chain_any A L a c t W hc hbC hz (HE.out W hW).mx (HE.out W hW).tb (HE.out W hW).sq (HE.out W hW).se (HXA.out W hW)).mono (fun e w' h => ⟨h.1, Below.later hW h.2⟩))
  have HRs : Hid (∀ (s : ByteArray) (W : World), Below w0.heap.size w0 W → Calls Tryz.prog 10 #[.agg #[.slice a L.length c], .string s] W fun e w' => GoResolve A W.heap.size w' L s e ∧ Below W.heap.size W w') := hid0 (fun s W hW => resolve_any A L a c s W hl hc hbR hz (HE.out W hW).mx (HE.out W hW).tb (HE.out W hW).sq (HE.out W hW).se (HXA.out W hW))
  have HCk : Hid (∀ W : World, Below w0.heap.size w0 W → Calls Tryz.prog 11 #[.agg #[.slice a L.length c]] W fun e w' => e = .returned (errO A (chkE entE L)) ∧ Below W.heap.size W w') := hid0 (fun W hW => check_any entE A L a c W hc hbC (HE.out W hW).mx (HE.out W hW).se (HXA.out W hW) hz (fun x W' hx hW' => entry_any A x W' hx ((HE.out W hW).below hW').sq ((HE.out W hW).below hW').se))
  have HN2 : Hid (∀ W : World, Below w0.heap.size w0 W → Calls Tryz.prog 14 #[.iface 192 (.pointer (some (A 2)))] W fun e w' => e = .returned (.int .i64 3) ∧ w' = W) := hid0 (fun W hW => kitNum_at W A (HE.out W hW).se 2 (by omega))
  have HSc : Hid (∀ (s : ByteArray) (W : World), Below w0.heap.size w0 W → Calls Tryz.prog 17 #[.agg #[.slice a L.length c], .string s] W fun e w' => (∃ ae ce, e = .returned (.slice ae (edOf L s).length ce) ∧ EA w' ae (edOf L s)) ∧ Below W.heap.size W w') := hid0 (fun s W hW => lawSection_any L a c s W hl (HXA.out W hW))
  have HLe : Hid (∀ s, (edOf L s).length ≤ 100000000) := hid0 (fun s => by
    unfold edOf
    split
    · rename_i x hx; exact hb x (List.mem_of_find?_eq_some hx)
    · simp)
  have HB0 := hid0 hB0
  have hfold := hw0.symm
  clear hw0 hs0 hB0 hX0 hE ha hb hz hbC hbR hc hl
  cases hch : chainF L t with
  | bad i =>
    rw [hch] at HCh
    have HCB := hid0 hch
    have M0 : Hid True := trivial
    clear hch HN2 HCk HSc HXA HE
    go_enter Tryz.func5, Tryz.ntmps5
    go_wp2_with (first
      | (go_at_call 8; refine HKn.out.mono ?_; rintro e w1 ⟨rfl, hb1⟩; obtain ⟨y0, y1⟩ := HX.out w1 hb1; have HB1 := hid0 hb1; clear hb1 x0 x1 hfold)
      | (go_at_call 9; refine (HCh.out w1 HB1.out).mono ?_; rintro e w2 ⟨hgo, hb2⟩; unfold GoChain at hgo; subst hgo; obtain ⟨z0, z1⟩ := HX.out w2 hb2; have HB2 := hid0 hb2; clear hb2 y0 y1)
      | (go_at_call 10; clear M0; refine (HRs.out t w2 HB2.out).mono ?_; rintro e w3 ⟨hgo, hb3⟩; obtain rfl := goBad hgo HCB.out; clear hgo; have hq := eql_same w3 (A i); have HB3 := hid0 hb3; clear hb3)
      | fail)
    go_ret
    exact ⟨by simp, Below.later HB0.out (Below.later HB2.out HB3.out)⟩
  | ok cc =>
    obtain ⟨hck, hc16, ⟨r0, xr, hcr, hxr⟩, c0, tl, hct, htl⟩ := chain_parts hch
    obtain ⟨H, hH⟩ := holds_ex (edsF L cc)
    rw [hch] at HCh
    rw [hck] at HCk
    simp only [errO] at HCk
    have HCC := hid0 hch
    have HH := hid0 hH
    obtain ⟨m, hm⟩ : ∃ m, cc.length = m + 1 := ⟨cc.length - 1, by rw [hct]; simp⟩
    have HAt : Hid (∀ (W : World) (v : Value) (base : Nat), OwnS W base v cc → ∃ b off cap, v = .slice (some ⟨b, off, none⟩) (m + 1) cap ∧ b < W.heap.size ∧ SA W (some ⟨b, off, none⟩) cc) := hid0 (fun W v base ho => by
      obtain ⟨a', cap, rfl, hs, _⟩ := ho.sa
      obtain ⟨b', off, rfl, hlt, _⟩ := hs.at' 0 (by omega)
      exact ⟨b', off, cap, by rw [hm], hlt, hs⟩)
    have HC0 : Hid (∀ (W : World) (b off : Nat), SA W (some ⟨b, off, none⟩) cc → W.cell? ⟨b, off, none⟩ = some (.string c0) ∧ W.cell? ⟨b, off + m, none⟩ = some (.string xr)) := hid0 (fun W b' off hs => by
      obtain ⟨b2, o2, e2, _, h2⟩ := hs.at' 0 (by omega)
      obtain ⟨b3, o3, e3, _, h3⟩ := hs.at' m (by omega)
      cases e2; cases e3
      have q0 : cc[0]'(by omega) = c0 := by simp [hct]
      have q1 : cc[m]'(by omega) = xr := by
        have : r0.length = m := by have := congrArg List.length hcr; simp at this; omega
        subst this; simp [hcr]
      rw [q0] at h2; rw [q1] at h3
      exact ⟨h2, h3⟩)
    have HC1 : Hid (∀ p r, tl = p :: r → ∀ (W : World) (b off : Nat), SA W (some ⟨b, off, none⟩) cc → W.cell? ⟨b, off + 1, none⟩ = some (.string p)) := hid0 (fun p r he W b' off hs => by
      obtain ⟨b2, o2, e2, _, h2⟩ := hs.at' 1 (by rw [hct, he]; simp)
      cases e2
      have q0 : cc[1]'(by rw [hct, he]; simp) = p := by simp [hct, he]
      rw [q0] at h2
      exact h2)
    have HM : Hid (tl.length = m) := hid0 (by rw [hct] at hm; simpa using hm)
    have HED : Hid (edsF L cc = edsF L tl ++ edOf L c0) := hid0 (by rw [hct, eds_cons])
    have hm16 : m ≤ 16 := by omega
    clear hch hck hcr hc16 hm hct hH
    have M0 : Hid True := trivial
    by_cases h2k : 2000 < H.length
    · clear HXA HSc HCk HC0 HC1
      go_enter Tryz.func5, Tryz.ntmps5
      go_wp2_with (first
        | (go_at_call 8; refine HKn.out.mono ?_; rintro e w1 ⟨rfl, hb1⟩; obtain ⟨y0, y1⟩ := HX.out w1 hb1; have HB1 := hid0 hb1; clear hb1 x0 x1 hfold)
        | (go_at_call 9; refine (HCh.out w1 HB1.out).mono ?_; rintro e w2 ⟨hgo, hb2⟩; unfold GoChain at hgo; obtain ⟨v, rfl, ho⟩ := hgo; clear ho; obtain ⟨z0, z1⟩ := HX.out w2 hb2; have HB2 := hid0 hb2; clear hb2 y0 y1)
        | (go_at_call 10; clear M0; refine (HRs.out t w2 HB2.out).mono ?_; rintro e w3 ⟨hgo, hb3⟩; obtain rfl := (goRes hgo HCC.out HH.out).1 h2k; clear hgo; have HB3 := hid0 hb3; clear hb3)
        | (go_at_call 14; refine (HN2.out w3 (Below.later HB2.out HB3.out)).mono ?_; rintro e w4 ⟨rfl, rfl⟩)
        | fail)
      go_ret
      exact ⟨by simp, Below.later HB0.out (Below.later HB2.out HB3.out)⟩
    · have hsub : ((m + 1 : Nat) : Int) - 1 = (m : Int) := by omega
      have hm0 : (0 : Int) ≤ (m : Int) := by omega
      have hmI : (m : Int) < ((m + 1 : Nat) : Int) := by omega
      have hne : (((m + 1 : Nat) : Int) == 0) = false := by rw [beq_eq_false_iff_ne]; omega
      obtain ⟨N, hN⟩ : ∃ N, N = H.length := ⟨_, rfl⟩
      have hN2 : N ≤ 2000 := by omega
      have HNH := hid0 hN
      have H2K := hid0 h2k
      clear hN h2k
      rcases htl with htl0 | ⟨p, r, htl0, htc⟩
      · have hm1 : ¬ (1 : Int) < ((m + 1 : Nat) : Int) := by have := HM.out; rw [htl0] at this; simp at this; omega
        have HT0 : Hid (edsF L tl = []) := hid0 (by rw [htl0]; rfl)
        clear HC1 HN2 htl0
        go_enter Tryz.func5, Tryz.ntmps5
        go_wp2_with (first
          | (go_at_call 8; refine HKn.out.mono ?_; rintro e w1 ⟨rfl, hb1⟩; obtain ⟨y0, y1⟩ := HX.out w1 hb1; have HB1 := hid0 hb1; clear hb1 x0 x1 hfold)
          | (go_at_call 9; refine (HCh.out w1 HB1.out).mono ?_; rintro e w2 ⟨hgo, hb2⟩; unfold GoChain at hgo; obtain ⟨v, rfl, ho⟩ := hgo; obtain ⟨g, off, cap, rfl, hgl, hsa⟩ := HAt.out _ _ _ ho; clear ho; have HSA := hid0 hsa; clear hsa; have HGl := hid0 hgl; clear hgl; obtain ⟨z0, z1⟩ := HX.out w2 hb2; have HB2 := hid0 hb2; clear hb2 y0 y1)
          | (go_at_call 10; clear M0; refine (HRs.out t w2 HB2.out).mono ?_; rintro e w3 ⟨hgo, hb3⟩; obtain ⟨a1, k1, l, rfl, hs1, hr1, hl1, hm1⟩ := (goRes hgo HCC.out HH.out).2 H2K.out; rw [← HNH.out] at *; have HS1 := hid0 hs1; have HR1 := hid0 hr1; have HL1 := hid0 hl1; have HM1 := hid0 hm1; clear hgo hs1 hr1 hl1 hm1 z0 z1; obtain ⟨u0, _⟩ := HX.out w3 (Below.later HB2.out hb3); obtain ⟨u2, u3⟩ := HC0.out w3 g off (HSA.out.below hb3); have HB3 := hid0 hb3; clear hb3)
          | (go_at_call 11; refine (HCk.out w3 (Below.later HB2.out HB3.out)).mono ?_; rintro e w4 ⟨rfl, hb4⟩; have HB4 := hid0 hb4; clear hb4 u0 u2 u3)
          | fail)
        have HB34 := HB4
        have HB5 : Hid (Below w0.heap.size w0 w4) := hid0 (Below.later (Below.later HB2.out HB3.out) HB4.out)
        have HS5 : Hid (∀ W : World, Below w4.heap.size w4 W → W.cell? ⟨w.heap.size, 0, none⟩ = some (.slice a L.length c) ∧ W.cell? ⟨g, off, none⟩ = some (.string c0) ∧ Below w4.heap.size w4 W) := hid0 (fun W hW => ⟨(HX.out W (Below.later HB5.out hW)).1, (HC0.out W g off ((HSA.out.below HB3.out).below HB34.out |>.below hW)).1, hW⟩)
        have HSe : Hid (∀ W : World, Below w4.heap.size w4 W → Calls Tryz.prog 17 #[.agg #[.slice a L.length c], .string c0] W fun e w' => (∃ ae ce, e = .returned (.slice ae (edOf L c0).length ce) ∧ EA w' ae (edOf L c0)) ∧ Below w4.heap.size w4 w') := hid0 (fun W hW => (HSc.out c0 W (Below.later HB5.out hW)).mono (fun e w' h => ⟨h.1, Below.later hW h.2⟩))
        obtain ⟨t0, t1, t2⟩ := HS5.out w4 (Below.refl _ _)
        have hed := HLe.out c0
        have HED2 := HED
        generalize edOf L c0 = ed at *
        go_region_held3 (fun W => W.cell? ⟨w.heap.size, 0, none⟩ = some (.slice a L.length c) ∧ W.cell? ⟨g, off, none⟩ = some (.string c0) ∧ Below w4.heap.size w4 W) (first | exact HS5.out _ (by assumption) | (go_split_ands; exact HS5.out _ (by assumption)) | (go_split_ands; exact HS5.out _ (by go_grown)))
          (first | (go_at_call 17; go_split_ands; refine (HSe.out _ (by assumption)).mono ?_; rintro e w6 ⟨⟨ae, ce, rfl, hea⟩, hb6⟩))
        go_wp2
        go_split_ands
        have HEA : Hid (∀ W : World, Below w6.heap.size w6 W → EA W ae ed) := hid0 (fun W hW => EA.later (by assumption) hW)
        have HB6 : Hid (Below w0.heap.size w0 w6) := hid0 (Below.later HB5.out (by assumption))
        have HL6 : Hid (∀ W : World, Below w6.heap.size w6 W → SA W a1 l) := hid0 (fun W hW => (((HS1.out.below HB34.out).below (by assumption)).below hW))
        go_loopw [8, 12] (fun v i wr => ∃ (k n : Nat) (H' : List ByteArray) (a' : Option Addr) (c' : Nat), k ≤ ed.length ∧ i = .int .i64 (k : Int) ∧ v = .slice a' n c' ∧ n ≤ 2000 + k ∧ Hid (H'.length = n) ∧ Hid (SA wr a' H') ∧ Hid (Holds H' (edsF L tl ++ ed.take k)) ∧ Hid (Below w6.heap.size w6 wr)) (fun _ i _ => ed.length - (intOf i).toNat)
        case atStart => exact ⟨0, 0, [], none, 0, Nat.zero_le _, rfl, rfl, by omega, hid0 rfl, hid0 ⟨fun k h => absurd h (Nat.not_lt_zero _)⟩, hid0 (by rw [HT0.out]; exact holds_nil), hid0 (Below.refl _ _)⟩
        case round =>
          obtain ⟨k, n, H', a', c', hk, rfl, rfl, hn, HLn, HSH, HHo, HB⟩ := hrel
          by_cases hlt : k < ed.length
          · have hkI : (k : Int) < (ed.length : Int) := by omega
            have hk0 : (0 : Int) ≤ (k : Int) := by omega
            obtain ⟨b2, o2, rfl, hbl, d0, d1⟩ := (HEA.out wr HB.out).at' k hlt
            have HNx : Hid (Holds (stepE H' ed[k]) (edsF L tl ++ ed.take (k + 1))) := hid0 (by
              have h := HHo.out.step ed[k]
              rw [List.append_assoc] at h
              rw [List.take_add_one, List.getElem?_eq_getElem hlt]
              exact h)
            have hse := stepE_le H' ed[k]
            cases hb1 : ed[k].1 with
            | true =>
              rw [hb1] at d0
              have HSt : Hid (stepE H' ed[k] = outL H' ed[k].2 ++ [ed[k].2]) := hid0 (by rw [stepE, if_pos hb1])
              have HW := with_law H' a' c' ed[k].2 wr (by have := HLn.out; omega) HSH.out
              rw [HLn.out, ← HSt.out] at HW
              have HWH := hid0 HW
              have hse2 : (stepE H' ed[k]).length ≤ n + 1 := by have := HLn.out; omega
              clear HW hb1 hse
              generalize stepE H' ed[k] = H2 at *
              generalize ed[k].2 = en at *
              go_wp2_with (first
                | (go_at_call 18; refine HWH.out.mono ?_; rintro e w7 ⟨⟨v7, rfl, ho⟩, hb7⟩; obtain ⟨a7, c7, rfl, hs7, _⟩ := ho.sa; have HS7 := hid0 hs7; have HB7 := hid0 (Below.later HB.out hb7); clear ho hs7 hb7)
                | fail)
              go_roundw
              case rel => exact ⟨k + 1, H2.length, H2, a7, c7, by omega, by go_num, rfl, by omega, hid0 rfl, HS7, HNx, HB7⟩
              case measure => simp [intOf]; omega
            | false =>
              rw [hb1] at d0
              have HSt : Hid (stepE H' ed[k] = outL H' ed[k].2) := hid0 (by rw [stepE, if_neg (by rw [hb1]; decide)])
              have HW := without_law H' a' c' ed[k].2 wr (by have := HLn.out; omega) HSH.out
              rw [HLn.out, ← HSt.out] at HW
              have HWH := hid0 HW
              have hse2 : (stepE H' ed[k]).length ≤ n + 1 := by have := HLn.out; omega
              clear HW hb1 hse
              generalize stepE H' ed[k] = H2 at *
              generalize ed[k].2 = en at *
              go_wp2_with (first
                | (go_at_call 19; refine HWH.out.mono ?_; rintro e w7 ⟨⟨v7, rfl, ho⟩, hb7⟩; obtain ⟨a7, c7, rfl, hs7, _⟩ := ho.sa; have HS7 := hid0 hs7; have HB7 := hid0 (Below.later HB.out hb7); clear ho hs7 hb7)
                | fail)
              go_roundw
              case rel => exact ⟨k + 1, H2.length, H2, a7, c7, by omega, by go_num, rfl, by omega, hid0 rfl, HS7, HNx, HB7⟩
              case measure => simp [intOf]; omega
          · have hkI : ¬ (k : Int) < (ed.length : Int) := by omega
            have hho := HHo.out
            rw [List.take_of_length_le (by omega), ← HED2.out] at hho
            obtain ⟨hs1, hs2⟩ := hho.same HR1.out HM1.out
            obtain rfl : n = N := by rw [← HLn.out, ← hs1, HL1.out]
            have HAl := hid0 (alike_law l H' n a1 a' k1 c' wr (by omega) HL1.out HLn.out HR1.out hs2 (HL6.out wr HB.out) HSH.out)
            clear hs1 hs2 hho
            go_wp2_with (first
              | (go_at_call 20; refine HAl.out.mono ?_; rintro e w8 ⟨rfl, hb8⟩)
              | fail)
            go_ret
            exact ⟨rfl, Below.later HB0.out (Below.later HB6.out (Below.later HB.out hb8))⟩
      · have hm1 : (1 : Int) < ((m + 1 : Nat) : Int) := by have := HM.out; rw [htl0] at this; simp at this; omega
        have HC1p := hid0 (HC1.out p r htl0)
        have HTC := hid0 htc
        obtain ⟨Hp, hHp⟩ := holds_ex (edsF L tl)
        have HHp := hid0 hHp
        clear HC1 htl0 htc hHp
        by_cases hpk : 2000 < Hp.length
        · skip
          go_enter Tryz.func5, Tryz.ntmps5
          go_wp2_with (first
            | (go_at_call 8; refine HKn.out.mono ?_; rintro e w1 ⟨rfl, hb1⟩; obtain ⟨y0, y1⟩ := HX.out w1 hb1; have HB1 := hid0 hb1; clear hb1 x0 x1 hfold)
            | (go_at_call 9; refine (HCh.out w1 HB1.out).mono ?_; rintro e w2 ⟨hgo, hb2⟩; unfold GoChain at hgo; obtain ⟨v, rfl, ho⟩ := hgo; obtain ⟨g, off, cap, rfl, hgl, hsa⟩ := HAt.out _ _ _ ho; clear ho; have HSA := hid0 hsa; clear hsa; have HGl := hid0 hgl; clear hgl; obtain ⟨z0, z1⟩ := HX.out w2 hb2; have HB2 := hid0 hb2; clear hb2 y0 y1)
            | (go_at_call 10; clear M0; refine (HRs.out t w2 HB2.out).mono ?_; rintro e w3 ⟨hgo, hb3⟩; obtain ⟨a1, k1, l, rfl, hs1, hr1, hl1, hm1⟩ := (goRes hgo HCC.out HH.out).2 H2K.out; rw [← HNH.out] at *; have HS1 := hid0 hs1; have HR1 := hid0 hr1; have HL1 := hid0 hl1; have HM1 := hid0 hm1; clear hgo hs1 hr1 hl1 hm1 z0 z1; obtain ⟨u0, _⟩ := HX.out w3 (Below.later HB2.out hb3); obtain ⟨u2, u3⟩ := HC0.out w3 g off (HSA.out.below hb3); have HB3 := hid0 hb3; clear hb3)
            | (go_at_call 11; refine (HCk.out w3 (Below.later HB2.out HB3.out)).mono ?_; rintro e w4 ⟨rfl, hb4⟩; have HB4 := hid0 hb4; clear hb4 u0 u2 u3)
            | fail)
          have HB4w : Hid (Below w0.heap.size w0 w4) := hid0 (Below.later (Below.later HB2.out HB3.out) HB4.out)
          have HS4 : Hid (∀ W : World, Below w4.heap.size w4 W → W.cell? ⟨w.heap.size, 0, none⟩ = some (.slice a L.length c) ∧ W.cell? ⟨g, off + 1, none⟩ = some (.string p) ∧ Below w4.heap.size w4 W) := hid0 (fun W hW => ⟨(HX.out W (Below.later HB4w.out hW)).1, HC1p.out W g off ((HSA.out.below HB3.out).below HB4.out |>.below hW), hW⟩)
          have HRp : Hid (∀ W : World, Below w4.heap.size w4 W → Calls Tryz.prog 10 #[.agg #[.slice a L.length c], .string p] W fun e w' => e = .returned (.tuple #[.slice none 0 0, .iface 192 (.pointer (some (A 2)))]) ∧ Below w4.heap.size w4 w') := hid0 (fun W hW => (HRs.out p W (Below.later HB4w.out hW)).mono (fun e w' h => ⟨(goRes h.1 HTC.out HHp.out).1 hpk, Below.later hW h.2⟩))
          obtain ⟨t0, t1, t2⟩ := HS4.out w4 (Below.refl _ _)
          go_region_held3 (fun W => W.cell? ⟨w.heap.size, 0, none⟩ = some (.slice a L.length c) ∧ W.cell? ⟨g, off + 1, none⟩ = some (.string p) ∧ Below w4.heap.size w4 W) (first | exact HS4.out _ (by assumption) | (go_split_ands; exact HS4.out _ (by assumption)) | (go_split_ands; exact HS4.out _ (by go_grown)))
            (first | (go_at_call 10; go_split_ands; refine (HRp.out _ (by assumption)).mono ?_; rintro e w5 ⟨rfl, hb5⟩))
          go_split_ands
          have HB5 : Hid (Below w4.heap.size w4 w5) := hid0 (by assumption)
          go_wp2_with (first
            | (go_at_call 14; refine (HN2.out w5 (Below.later HB4w.out HB5.out)).mono ?_; rintro e w6 ⟨rfl, rfl⟩)
            | fail)
          go_ret
          exact ⟨by simp, Below.later HB0.out (Below.later HB4w.out HB5.out)⟩
        · obtain ⟨n2, hn2⟩ : ∃ n2, n2 = Hp.length := ⟨_, rfl⟩
          have hn2k : n2 ≤ 2000 := by omega
          have HN2L := hid0 hn2
          have HPK := hid0 hpk
          clear hn2 hpk HN2
          go_enter Tryz.func5, Tryz.ntmps5
          go_wp2_with (first
            | (go_at_call 8; refine HKn.out.mono ?_; rintro e w1 ⟨rfl, hb1⟩; obtain ⟨y0, y1⟩ := HX.out w1 hb1; have HB1 := hid0 hb1; clear hb1 x0 x1 hfold)
            | (go_at_call 9; refine (HCh.out w1 HB1.out).mono ?_; rintro e w2 ⟨hgo, hb2⟩; unfold GoChain at hgo; obtain ⟨v, rfl, ho⟩ := hgo; obtain ⟨g, off, cap, rfl, hgl, hsa⟩ := HAt.out _ _ _ ho; clear ho; have HSA := hid0 hsa; clear hsa; have HGl := hid0 hgl; clear hgl; obtain ⟨z0, z1⟩ := HX.out w2 hb2; have HB2 := hid0 hb2; clear hb2 y0 y1)
            | (go_at_call 10; clear M0; refine (HRs.out t w2 HB2.out).mono ?_; rintro e w3 ⟨hgo, hb3⟩; obtain ⟨a1, k1, l, rfl, hs1, hr1, hl1, hm1⟩ := (goRes hgo HCC.out HH.out).2 H2K.out; rw [← HNH.out] at *; have HS1 := hid0 hs1; have HR1 := hid0 hr1; have HL1 := hid0 hl1; have HM1 := hid0 hm1; clear hgo hs1 hr1 hl1 hm1 z0 z1; obtain ⟨u0, _⟩ := HX.out w3 (Below.later HB2.out hb3); obtain ⟨u2, u3⟩ := HC0.out w3 g off (HSA.out.below hb3); have HB3 := hid0 hb3; clear hb3)
            | (go_at_call 11; refine (HCk.out w3 (Below.later HB2.out HB3.out)).mono ?_; rintro e w4 ⟨rfl, hb4⟩; have HB4 := hid0 hb4; clear hb4 u0 u2 u3)
            | fail)
          have HB4w : Hid (Below w0.heap.size w0 w4) := hid0 (Below.later (Below.later HB2.out HB3.out) HB4.out)
          have HS4 : Hid (∀ W : World, Below w4.heap.size w4 W → W.cell? ⟨w.heap.size, 0, none⟩ = some (.slice a L.length c) ∧ W.cell? ⟨g, off + 1, none⟩ = some (.string p) ∧ Below w4.heap.size w4 W) := hid0 (fun W hW => ⟨(HX.out W (Below.later HB4w.out hW)).1, HC1p.out W g off ((HSA.out.below HB3.out).below HB4.out |>.below hW), hW⟩)
          have HRp : Hid (∀ W : World, Below w4.heap.size w4 W → Calls Tryz.prog 10 #[.agg #[.slice a L.length c], .string p] W fun e w' => (∃ a2 k2, e = .returned (.tuple #[.slice a2 n2 k2, .nilIface]) ∧ ∃ l2, SA w' a2 l2 ∧ l2.length = n2 ∧ Holds l2 (edsF L tl)) ∧ Below w4.heap.size w4 w') := hid0 (fun W hW => (HRs.out p W (Below.later HB4w.out hW)).mono (fun e w' h => by
            obtain ⟨a2, k2, l2, he, hs2, hr2, hl2, hm2⟩ := (goRes h.1 HTC.out HHp.out).2 HPK.out
            rw [← HN2L.out] at he hl2
            exact ⟨⟨a2, k2, he, l2, hs2, hl2, ⟨rising_nodup hr2, hm2⟩⟩, Below.later hW h.2⟩))
          obtain ⟨t0, t1, t2⟩ := HS4.out w4 (Below.refl _ _)
          go_region_held3 (fun W => W.cell? ⟨w.heap.size, 0, none⟩ = some (.slice a L.length c) ∧ W.cell? ⟨g, off + 1, none⟩ = some (.string p) ∧ Below w4.heap.size w4 W) (first | exact HS4.out _ (by assumption) | (go_split_ands; exact HS4.out _ (by assumption)) | (go_split_ands; exact HS4.out _ (by go_grown)))
            (first | (go_at_call 10; go_split_ands; refine (HRp.out _ (by assumption)).mono ?_; rintro e w5 ⟨⟨a2, k2, rfl, hex2⟩, hb5⟩))
          go_split_ands
          have HBq : Hid (Below w4.heap.size w4 w5) := hid0 (by assumption)
          obtain ⟨l2, hs2, hl2, hh2⟩ := hex2
          have HS2 := hid0 hs2
          have HL2 := hid0 hl2
          have HH2 := hid0 hh2
          have HB34 : Hid (Below w3.heap.size w3 w5) := hid0 (Below.later HB4.out HBq.out)
          clear hs2 hl2 hh2 t0 t1 t2
          go_wp2
          have HB5 : Hid (Below w0.heap.size w0 w5) := hid0 (Below.later HB4w.out HBq.out)
          have HS5 : Hid (∀ W : World, Below w5.heap.size w5 W → W.cell? ⟨w.heap.size, 0, none⟩ = some (.slice a L.length c) ∧ W.cell? ⟨g, off, none⟩ = some (.string c0) ∧ Below w5.heap.size w5 W) := hid0 (fun W hW => ⟨(HX.out W (Below.later HB5.out hW)).1, (HC0.out W g off ((HSA.out.below HB3.out).below HB34.out |>.below hW)).1, hW⟩)
          have HSe : Hid (∀ W : World, Below w5.heap.size w5 W → Calls Tryz.prog 17 #[.agg #[.slice a L.length c], .string c0] W fun e w' => (∃ ae ce, e = .returned (.slice ae (edOf L c0).length ce) ∧ EA w' ae (edOf L c0)) ∧ Below w5.heap.size w5 w') := hid0 (fun W hW => (HSc.out c0 W (Below.later HB5.out hW)).mono (fun e w' h => ⟨h.1, Below.later hW h.2⟩))
          obtain ⟨t0, t1, t2⟩ := HS5.out w5 (Below.refl _ _)
          have hed := HLe.out c0
          have HED2 := HED
          generalize edOf L c0 = ed at *
          go_region_held3 (fun W => W.cell? ⟨w.heap.size, 0, none⟩ = some (.slice a L.length c) ∧ W.cell? ⟨g, off, none⟩ = some (.string c0) ∧ Below w5.heap.size w5 W) (first | exact HS5.out _ (by assumption) | (go_split_ands; exact HS5.out _ (by assumption)) | (go_split_ands; exact HS5.out _ (by go_grown)))
            (first | (go_at_call 17; go_split_ands; refine (HSe.out _ (by assumption)).mono ?_; rintro e w6 ⟨⟨ae, ce, rfl, hea⟩, hb6⟩))
          go_wp2
          go_split_ands
          have HEA : Hid (∀ W : World, Below w6.heap.size w6 W → EA W ae ed) := hid0 (fun W hW => EA.later (by assumption) hW)
          have HB6 : Hid (Below w0.heap.size w0 w6) := hid0 (Below.later HB5.out (by assumption))
          have HL6 : Hid (∀ W : World, Below w6.heap.size w6 W → SA W a1 l) := hid0 (fun W hW => (((HS1.out.below HB34.out).below (by assumption)).below hW))
          go_loopw [8, 12] (fun v i wr => ∃ (k n : Nat) (H' : List ByteArray) (a' : Option Addr) (c' : Nat), k ≤ ed.length ∧ i = .int .i64 (k : Int) ∧ v = .slice a' n c' ∧ n ≤ 2000 + k ∧ Hid (H'.length = n) ∧ Hid (SA wr a' H') ∧ Hid (Holds H' (edsF L tl ++ ed.take k)) ∧ Hid (Below w6.heap.size w6 wr)) (fun _ i _ => ed.length - (intOf i).toNat)
          case atStart => exact ⟨0, n2, l2, a2, k2, Nat.zero_le _, rfl, rfl, by omega, HL2, hid0 (HS2.out.below (by assumption)), hid0 (by rw [List.take_zero, List.append_nil]; exact HH2.out), hid0 (Below.refl _ _)⟩
          case round =>
            obtain ⟨k, n, H', a', c', hk, rfl, rfl, hn, HLn, HSH, HHo, HB⟩ := hrel
            by_cases hlt : k < ed.length
            · have hkI : (k : Int) < (ed.length : Int) := by omega
              have hk0 : (0 : Int) ≤ (k : Int) := by omega
              obtain ⟨b2, o2, rfl, hbl, d0, d1⟩ := (HEA.out wr HB.out).at' k hlt
              have HNx : Hid (Holds (stepE H' ed[k]) (edsF L tl ++ ed.take (k + 1))) := hid0 (by
                have h := HHo.out.step ed[k]
                rw [List.append_assoc] at h
                rw [List.take_add_one, List.getElem?_eq_getElem hlt]
                exact h)
              have hse := stepE_le H' ed[k]
              cases hb1 : ed[k].1 with
              | true =>
                rw [hb1] at d0
                have HSt : Hid (stepE H' ed[k] = outL H' ed[k].2 ++ [ed[k].2]) := hid0 (by rw [stepE, if_pos hb1])
                have HW := with_law H' a' c' ed[k].2 wr (by have := HLn.out; omega) HSH.out
                rw [HLn.out, ← HSt.out] at HW
                have HWH := hid0 HW
                have hse2 : (stepE H' ed[k]).length ≤ n + 1 := by have := HLn.out; omega
                clear HW hb1 hse
                generalize stepE H' ed[k] = H2 at *
                generalize ed[k].2 = en at *
                go_wp2_with (first
                  | (go_at_call 18; refine HWH.out.mono ?_; rintro e w7 ⟨⟨v7, rfl, ho⟩, hb7⟩; obtain ⟨a7, c7, rfl, hs7, _⟩ := ho.sa; have HS7 := hid0 hs7; have HB7 := hid0 (Below.later HB.out hb7); clear ho hs7 hb7)
                  | fail)
                go_roundw
                case rel => exact ⟨k + 1, H2.length, H2, a7, c7, by omega, by go_num, rfl, by omega, hid0 rfl, HS7, HNx, HB7⟩
                case measure => simp [intOf]; omega
              | false =>
                rw [hb1] at d0
                have HSt : Hid (stepE H' ed[k] = outL H' ed[k].2) := hid0 (by rw [stepE, if_neg (by rw [hb1]; decide)])
                have HW := without_law H' a' c' ed[k].2 wr (by have := HLn.out; omega) HSH.out
                rw [HLn.out, ← HSt.out] at HW
                have HWH := hid0 HW
                have hse2 : (stepE H' ed[k]).length ≤ n + 1 := by have := HLn.out; omega
                clear HW hb1 hse
                generalize stepE H' ed[k] = H2 at *
                generalize ed[k].2 = en at *
                go_wp2_with (first
                  | (go_at_call 19; refine HWH.out.mono ?_; rintro e w7 ⟨⟨v7, rfl, ho⟩, hb7⟩; obtain ⟨a7, c7, rfl, hs7, _⟩ := ho.sa; have HS7 := hid0 hs7; have HB7 := hid0 (Below.later HB.out hb7); clear ho hs7 hb7)
                  | fail)
                go_roundw
                case rel => exact ⟨k + 1, H2.length, H2, a7, c7, by omega, by go_num, rfl, by omega, hid0 rfl, HS7, HNx, HB7⟩
                case measure => simp [intOf]; omega
            · have hkI : ¬ (k : Int) < (ed.length : Int) := by omega
              have hho := HHo.out
              rw [List.take_of_length_le (by omega), ← HED2.out] at hho
              obtain ⟨hs1, hs2⟩ := hho.same HR1.out HM1.out
              obtain rfl : n = N := by rw [← HLn.out, ← hs1, HL1.out]
              have HAl := hid0 (alike_law l H' n a1 a' k1 c' wr (by omega) HL1.out HLn.out HR1.out hs2 (HL6.out wr HB.out) HSH.out)
              clear hs1 hs2 hho
              go_wp2_with (first
                | (go_at_call 20; refine HAl.out.mono ?_; rintro e w8 ⟨rfl, hb8⟩)
                | fail)
              go_ret
              exact ⟨rfl, Below.later HB0.out (Below.later HB6.out (Below.later HB.out hb8))⟩
end Go.Proofs.YtbdjnmbhphflbaaGreatDoor
