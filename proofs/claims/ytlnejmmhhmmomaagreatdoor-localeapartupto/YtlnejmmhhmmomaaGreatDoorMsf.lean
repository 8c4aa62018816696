/-
  LoM, LpRW, LpM, LeM, LeRM, LqM, LqGM, LqW.
-/
import Derived.Test.YtlnejmmhhmmomaaGreatDoorMse
import Derived.Deep.RegionHeld3
import Derived.Deep.DeepAppendRoom
import Derived.Deep.AppendLies
namespace Go.Proofs.YtlnejmmhhmmomaaGreatDoor
open Go.RowKit Go.Shelf Go.Lib
theorem join_snoc : ∀ (qs : List (List UInt8)) (q : List UInt8), qs ≠ [] → joinU (qs ++ [q]) = joinU qs ++ 95 :: q
  | [], _, h => absurd rfl h
  | [p], q, _ => by rw [List.singleton_append, joinU_cons, joinU_one, joinU_one]
  | p :: p2 :: r, q, _ => by
    have ih := join_snoc (p2 :: r) q (by simp)
    rw [List.cons_append] at ih
    rw [List.cons_append, List.cons_append, joinU_cons, joinU_cons, ih]
    simp
theorem at_list (s : ByteArray) (k : Nat) (h : k < s.size) : ((s.data[k]!).toNat : Int) = 95 ↔ s.data.toList[k]? = some 95 := by
  rw [byte_bang s k h, bget s k h]
  constructor
  · intro e
    have : s[k] = 95 := UInt8.toNat_inj.1 (by have : (95 : UInt8).toNat = 95 := rfl; omega)
    rw [this]
  · intro e
    have := Option.some.inj e
    rw [this]; rfl
theorem last_none {l : List UInt8} (h : ∀ b ∈ l, b ≠ 95) : Lib.lastIndexByte (strOf l) 95 = -1 := by
  rcases Lib.lastIndexByte_spec (strOf l) 95 with ⟨e, _⟩ | ⟨i, hi, e, hb, _⟩
  · exact e
  · have h2 := (at_list (strOf l) i hi).1 hb
    rw [strOf_data] at h2
    exact absurd rfl (h 95 (List.mem_of_getElem? h2))
theorem last_at {l q : List UInt8} (h : ∀ b ∈ q, b ≠ 95) : Lib.lastIndexByte (strOf (l ++ 95 :: q)) 95 = (l.length : Int) := by
  have hsz : (strOf (l ++ 95 :: q)).size = l.length + 1 + q.length := by rw [strOf_size]; simp; omega
  have h0 : (strOf (l ++ 95 :: q)).data.toList[l.length]? = some 95 := by rw [strOf_data]; simp
  rcases Lib.lastIndexByte_spec (strOf (l ++ 95 :: q)) 95 with ⟨_, hn⟩ | ⟨i, hi, e, hb, hn⟩
  · exact absurd ((at_list _ _ (by omega)).2 h0) (hn l.length (by omega))
  · rw [e]
    by_cases h1 : i < l.length
    · exact absurd ((at_list _ _ (by omega)).2 h0) (hn l.length h1 (by omega))
    · by_cases h2 : i = l.length
      · rw [h2]
      · have h3 := (at_list _ i hi).1 hb
        rw [strOf_data, List.getElem?_append_right (by omega)] at h3
        obtain ⟨k, hk⟩ : ∃ k, i - l.length = k + 1 := ⟨i - l.length - 1, by omega⟩
        rw [hk, List.getElem?_cons_succ] at h3
        exact absurd rfl (h 95 (List.mem_of_getElem? h3))
theorem N_ne (b : UInt8) (h : isN b = true) : b ≠ 95 := fun e => by
  have := N_sep b h
  rw [e] at this
  exact absurd this (by decide)
theorem root_tag : tagF rootB.data.toList = some rootB.data.toList := by decide
/-- What is left of a tag's one form, when its last piece is cut off, is a one form. -/
theorem tagF_cut {t c : List UInt8} (h : tagF t = some c) : tagF (cutB (strOf c)).data.toList = some (cutB (strOf c)).data.toList := by
  obtain ⟨hl, hv, _, hc⟩ := tagF_le h
  have hN := canonP_N (pieces_of_fine t (validP_fine hv))
  have hne := canonP_ne (pieces_ne t)
  have hv2 := hv
  rw [← validP_canon] at hv2
  have htw := canonP_twice (pieces t)
  generalize canonP (pieces t) = ps at *
  rcases List.eq_nil_or_concat ps with rfl | ⟨qs, q, rfl⟩
  · exact absurd rfl hne
  · rw [List.concat_eq_append] at *
    have hq : ∀ b ∈ q, b ≠ 95 := fun b hb => N_ne b (hN q (by simp) b hb)
    by_cases hqs : qs = []
    · subst hqs
      rw [List.nil_append, joinU_one] at hc
      subst hc
      rw [cutB, last_none hq]
      exact root_tag
    · rw [join_snoc qs q hqs] at hc
      have hla := last_at (l := joinU qs) hq
      rw [← hc] at hla
      obtain ⟨p, r, rfl⟩ : ∃ p r, qs = p :: r := by cases qs with | nil => exact absurd rfl hqs | cons p r => exact ⟨p, r, rfl⟩
      have hns : ∀ p' ∈ p :: r, ∀ b ∈ p', isSep b = false := fun p' hp b hb => N_sep b (hN p' (List.mem_append_left _ hp) b hb)
      have hpj := pieces_join (p :: r) (by simp) hns
      simp only [validP, List.cons_append, List.headD_cons, Bool.and_eq_true] at hv2
      have hp2 := of_decide_eq_true hv2.1.2
      have hpl : 0 < (joinU (p :: r)).length := by
        rcases r with _ | ⟨r1, r⟩
        · rw [joinU_one]; omega
        · rw [joinU_cons]; simp; omega
      have hcut : (cutB (strOf c)).data.toList = joinU (p :: r) := by
        rw [cutB, hla, if_neg (by omega)]
        rw [Int.toNat_natCast]
        have : ((strOf c).extract 0 (joinU (p :: r)).length).data.toList = c.take (joinU (p :: r)).length := by
          rw [ByteArray.data_extract]; simp [strOf]
        rw [this, hc, List.take_left']
        rfl
      rw [hcut]
      unfold tagF
      rw [hpj, if_pos]
      · congr 1
        simp only [List.cons_append, canonP, List.map_append, List.cons.injEq] at htw
        obtain ⟨e1, e2⟩ := htw
        have e3 := (List.append_inj e2 (by simp)).1
        rw [canonP, e1, e3]
      · refine ⟨by rw [hc] at hl; simp at hl; omega, ?_⟩
        simp only [validP, List.headD_cons, Bool.and_eq_true]
        obtain ⟨⟨⟨a1, a2⟩, a3⟩, a4⟩ := hv2
        refine ⟨⟨⟨?_, a2⟩, a3⟩, ?_⟩
        · rw [List.all_eq_true] at a1 ⊢
          exact fun x hx => a1 x (by rw [← List.cons_append]; exact List.mem_append_left _ hx)
        · have : (p.map lowerB == rootL) = false := by
            simp only [Bool.not_eq_true', Bool.and_eq_false_iff] at a4
            rcases a4 with h | h
            · exact h
            · simp at h
          rw [this]; rfl
theorem tag_self {t c : List UInt8} (h : tagF t = some c) : tagF c = some c := by
  unfold tagF at h
  split at h
  · rename_i hv
    obtain rfl := Option.some.inj h
    rw [tagF_form (validP_fine hv.2) hv.1, if_pos hv.2]
  · cases h
/-- A text that is its own one form. -/
def Cn (x : ByteArray) : Prop := tagF x.data.toList = some x.data.toList
theorem cn_cut {x : ByteArray} (h : Cn x) : Cn (cutB x) := by
  have := tagF_cut h
  rw [strOf_self] at this
  exact this
theorem cn_par {E : ByteArray → Option Nat} {L : List Sec} (h : chkE E L = none) {t : ByteArray} (ht : Cn t) : Cn (parL L t) := by
  unfold parL
  cases hq : secOf L t with
  | none => exact cn_cut ht
  | some s =>
    simp only
    split
    · exact cn_cut ht
    · rename_i hp
      have h1 := par_ok h s (List.mem_of_find?_eq_some hq) (by simpa using hp)
      unfold isTagB at h1
      have h2 := of_decide_eq_true h1
      exact h2
theorem go_more (L : List Sec) : ∀ (f : Nat) (ch : List ByteArray) (last : ByteArray) (c : List ByteArray), chainGo L f ch last = .ok c → ∃ r, c = ch ++ r
  | 0, _, _, _, h => by cases h
  | f + 1, ch, last, c, h => by
    rw [chainGo] at h
    split at h
    · cases h; exact ⟨[], by simp⟩
    · split at h
      · cases h
      · split at h
        · cases h
        · obtain ⟨r, rfl⟩ := go_more L f _ _ c h
          exact ⟨parL L last :: r, by simp⟩
theorem go_root (L : List Sec) : ∀ (f : Nat) (ch : List ByteArray) (last : ByteArray) (c : List ByteArray), chainGo L f (ch ++ [last]) last = .ok c → ∃ r x, c = r ++ [x] ∧ (x.toList == [114, 111, 111, 116]) = true
  | 0, _, _, _, h => by cases h
  | f + 1, ch, last, c, h => by
    rw [chainGo] at h
    split at h
    · rename_i hr
      cases h; exact ⟨ch, last, rfl, hr⟩
    · split at h
      · cases h
      · split at h
        · cases h
        · exact go_root L f (ch ++ [last]) (parL L last) c h
theorem go_len (L : List Sec) : ∀ (f : Nat) (ch : List ByteArray) (last : ByteArray) (c : List ByteArray), ch.length ≤ 16 → chainGo L f ch last = .ok c → c.length ≤ 16
  | 0, _, _, _, _, h => by cases h
  | f + 1, ch, last, c, hl, h => by
    rw [chainGo] at h
    split at h
    · cases h; exact hl
    · split at h
      · cases h
      · split at h
        · cases h
        · exact go_len L f _ _ c (by simp; omega) h
theorem go_tail (L : List Sec) (x : ByteArray) : ∀ (f g : Nat) (ch : List ByteArray) (last : ByteArray) (c : List ByteArray), f ≤ g → ch.length ≤ 15 → chainGo L f (x :: ch) last = .ok c → ∃ tl, c = x :: tl ∧ chainGo L g ch last = .ok tl
  | 0, _, _, _, _, _, _, h => by cases h
  | f + 1, g, ch, last, c, hg, hl, h => by
    obtain ⟨g, rfl⟩ : ∃ g', g = g' + 1 := ⟨g - 1, by omega⟩
    rw [chainGo] at h ⊢
    split at h
    · rename_i hr
      rw [if_pos hr]
      cases h; exact ⟨ch, rfl, rfl⟩
    · rename_i hr
      rw [if_neg hr]
      split at h
      · cases h
      · rename_i hc
        have hc2 : ¬ Lib.containsS ch (parL L last) = true := fun e => hc ((Lib.containsS_iff _ _).2 (List.mem_cons_of_mem _ ((Lib.containsS_iff _ _).1 e)))
        rw [if_neg hc2]
        split at h
        · cases h
        · rename_i h6
          rw [if_neg (by omega)]
          exact go_tail L x f g (ch ++ [parL L last]) (parL L last) c (by omega) (by simp at h6 ⊢; omega) h
/-- A chain's parts. -/
theorem chain_parts {L : List Sec} {t : ByteArray} {c : List ByteArray} (h : chainF L t = .ok c) : chkE entE L = none ∧ c.length ≤ 16 ∧ (∃ r x, c = r ++ [x] ∧ (x.toList == [114, 111, 111, 116]) = true) ∧
    ∃ c0 tl, c = c0 :: tl ∧ (tl = [] ∨ ∃ p r, tl = p :: r ∧ chainF L p = .ok tl) := by
  unfold chainF at h
  split at h
  · cases h
  · rename_i hk
    split at h
    · cases h
    · rename_i d hd
      have hcn : Cn (strOf d) := by unfold Cn; rw [strOf_data]; exact tag_self hd
      refine ⟨hk, go_len L 17 _ _ c (by simp) h, go_root L 17 [] _ c h, ?_⟩
      generalize strOf d = x at *
      rw [chainGo] at h
      split at h
      · cases h; exact ⟨x, [], rfl, .inl rfl⟩
      · split at h
        · cases h
        · split at h
          · cases h
          · obtain ⟨tl, rfl, ht⟩ := go_tail L x 16 17 [parL L x] (parL L x) c (by omega) (by simp) h
            refine ⟨x, tl, rfl, .inr ?_⟩
            obtain ⟨r, hr⟩ := go_more L 17 _ _ tl ht
            refine ⟨parL L x, r, hr, ?_⟩
            have hp : Cn (parL L x) := cn_par hk hcn
            unfold chainF
            rw [hk, hp]
            show chainGo L 17 [strOf (parL L x).data.toList] (strOf (parL L x).data.toList) = _
            rw [strOf_self]
            exact ht
/-- What a list comes to, edit by edit. -/
noncomputable def stepE (H : List ByteArray) (e : Bool × ByteArray) : List ByteArray := if e.1 = true then outL H e.2 ++ [e.2] else outL H e.2
/-- A list that holds each entry once, just where the last edit says so. -/
structure Holds (H : List ByteArray) (eds : List (Bool × ByteArray)) : Prop where
  nd : H.Nodup
  mem : ∀ x, x ∈ H ↔ lastE eds x = some true
theorem Holds.step {H : List ByteArray} {eds : List (Bool × ByteArray)} (h : Holds H eds) (e : Bool × ByteArray) : Holds (stepE H e) (eds ++ [e]) := by
  have hno : (outL H e.2).Nodup := h.nd.filter _
  constructor
  · unfold stepE
    split
    · rw [List.nodup_append]
      refine ⟨hno, by simp, fun a ha b hb => ?_⟩
      rw [List.mem_singleton] at hb
      subst hb
      exact ((mem_outL _ _ _).1 ha).2
    · exact hno
  · intro x
    rw [lastE_snoc]
    by_cases hx : e.2 = x
    · subst hx
      rw [if_pos rfl]
      unfold stepE
      split
      · rename_i h1; simp [h1]
      · rename_i h1; simp [mem_outL, h1]
    · rw [if_neg hx, ← h.mem x]
      have hx2 : ¬ x = e.2 := fun q => hx q.symm
      unfold stepE
      split
      · simp [mem_outL, hx2]
      · simp [mem_outL, hx2]
theorem stepE_le (H : List ByteArray) (e : Bool × ByteArray) : (stepE H e).length ≤ H.length + 1 := by
  have := outL_le H e.2
  unfold stepE
  split
  · simp; omega
  · omega
/-- Two lists that hold the same are as long. -/
theorem Holds.same {H l : List ByteArray} {eds : List (Bool × ByteArray)} (h : Holds H eds) (hr : Rising l) (hm : ∀ x, x ∈ l ↔ lastE eds x = some true) : l.length = H.length ∧ ∀ x ∈ l, x ∈ H := by
  have hp : l.Perm H := (List.perm_ext_iff_of_nodup (rising_nodup hr) h.nd).2 (fun x => by rw [hm x, h.mem x])
  exact ⟨hp.length_eq, fun x hx => hp.mem_iff.1 hx⟩
theorem eds_cons (L : List Sec) (x : ByteArray) (tl : List ByteArray) : edsF L (x :: tl) = edsF L tl ++ edOf L x := by
  unfold edsF
  simp
end Go.Proofs.YtlnejmmhhmmomaaGreatDoor
namespace Go.Proofs.YtlnejmmhhmmomaaGreatDoor
open Go.RowKit Go.Shelf Go.Lib
/-- A rising list of what edits come to. -/
structure RiseH (X : List ByteArray) (eds : List (Bool × ByteArray)) : Prop where
  up : Rising X
  mem : ∀ x, x ∈ X ↔ lastE eds x = some true
theorem RiseH.nil : RiseH [] [] := ⟨List.Pairwise.nil, fun x => by simp [lastE]⟩
theorem RiseH.put {X Y : List ByteArray} {eds : List (Bool × ByteArray)} (h : RiseH X eds) {e : Bool × ByteArray} (he : e.1 = true) (hY : Ins X e.2 Y) : RiseH Y (eds ++ [e]) := ⟨hY.up, fun x => by
  rw [lastE_snoc, hY.mem x]
  by_cases hx : e.2 = x
  · rw [if_pos hx, he]; simp [hx.symm]
  · have hx2 : ¬ x = e.2 := fun q => hx q.symm
    rw [if_neg hx, ← h.mem x]; simp [hx2]⟩
theorem RiseH.out {X : List ByteArray} {eds : List (Bool × ByteArray)} (h : RiseH X eds) {e : Bool × ByteArray} (he : e.1 = false) : RiseH (outL X e.2) (eds ++ [e]) := ⟨h.up.filter _, fun x => by
  rw [lastE_snoc, mem_outL]
  by_cases hx : e.2 = x
  · rw [if_pos hx, he]; simp [hx.symm]
  · have hx2 : ¬ x = e.2 := fun q => hx q.symm
    rw [if_neg hx, ← h.mem x]; simp [hx2]⟩
def RefResolve (w' : World) (L : List Sec) (t : ByteArray) (e : Ending) : Prop := match chainF L t with
  | .bad i => e = .returned (.tuple #[.slice none 0 0, .int .i64 (refNo i)])
  | .ok c => ∃ (a : Option Addr) (k : Nat) (l : List ByteArray), SA w' a l ∧ RiseH l (edsF L c) ∧ e = .returned (if 2000 < l.length then .tuple #[.slice none 0 0, .int .i64 3] else .tuple #[.slice a l.length k, .int .i64 0])
theorem edOf_at {L : List Sec} {x : ByteArray} {k : Nat} (h : k < L.length) (e : L[k].loc = x) (hn : ∀ j (h : j < L.length), j < k → L[j].loc ≠ x) : edOf L x = L[k].ed := by rw [edOf, secOf_at h e hn]
theorem edOf_no {L : List Sec} {x : ByteArray} (hn : ∀ j (h : j < L.length), L[j].loc ≠ x) : edOf L x = [] := by rw [edOf, secOf_none hn]
theorem eds_drop {L : List Sec} {cc : List ByteArray} {m : Nat} (h : m < cc.length) : edsF L (cc.drop m) = edsF L (cc.drop (m + 1)) ++ edOf L cc[m] := by rw [List.drop_eq_getElem_cons h, eds_cons]
set_option maxRecDepth 10000 in
set_option maxHeartbeats 6400000 in
theorem refResolve_any (L : List Sec) (a : Option Addr) (c : Nat) (t : ByteArray) (w : World) (hl : L.length ≤ 1000000) (hb : ∀ s ∈ L, s.ed.length ≤ 2000000) (hz : ∀ s ∈ L, ∀ e ∈ s.ed, e.2.size ≤ 4194400) (ha : XA w a L) :
    Calls Tryz.prog 7 #[.agg #[.slice a L.length c], .string t] w fun e w' => RefResolve w' L t e ∧ Below w.heap.size w w' := by
  obtain ⟨w0, hw0⟩ : ∃ w0, w0 = w.alloc (.cells #[.slice a L.length c] 24) := ⟨_, rfl⟩
  have hB0 : Below w.heap.size w w0 := by rw [hw0]; exact (Below.refl _ _).alloc (Nat.le_refl _) _
  have hX0 : w0.heap[w.heap.size]? = some (.cells #[.slice a L.length c] 24 (0, 0)) := by rw [hw0]; exact heap_alloc_new w _
  have hs0 : w0.heap.size = w.heap.size + 1 := by rw [hw0]; simp
  have HX : Hid (∀ W : World, Below w0.heap.size w0 W → W.cell? ⟨w.heap.size, 0, none⟩ = some (.slice a L.length c)) := hid0 (fun W hW => bun_cell ((hW.block w.heap.size (by omega)).trans hX0))
  have HXA : Hid (∀ W : World, Below w0.heap.size w0 W → XA W a L) := hid0 (fun W hW => (ha.later hB0).later hW)
  have HCh := hid0 (refChain_any L a c t w0 hl (fun s hs => Nat.le_trans (hb s hs) (by decide)) hz (ha.later hB0))
  have HSc : Hid (∀ (x : ByteArray) (r : Int), IdxIs L x r → ∀ W : World, Below w0.heap.size w0 W → Calls Tryz.prog 19 #[.agg #[.slice a L.length c], .string x] W fun e w' => e = .returned (.int .i64 r) ∧ Below W.heap.size W w') := hid0 (fun x r hr W hW => (refSection_any L a c x W hl (HXA.out W hW)).mono (fun e w' h => by
    obtain ⟨⟨r', rfl, hr'⟩, h2⟩ := h
    rw [idx_uniq hr hr']
    exact ⟨rfl, h2⟩))
  have HBD := hid0 hb
  have HB0 := hid0 hB0
  have x0 := HX.out w0 (Below.refl _ _)
  have hfold := hw0.symm
  clear hw0 hs0 hB0 hX0 ha hb hz
  unfold RefResolve
  cases hch : chainF L t with
  | bad i =>
    rw [hch] at HCh
    simp only
    go_enter Tryz.func7, Tryz.ntmps7
    have hi := refNo_ne i ((chainF_ok L t).1 i hch)
    go_wp2_with (first
      | (go_at_call 12; refine HCh.out.mono ?_; rintro e w1 ⟨hgo, hb1⟩; unfold RefChain at hgo; subst hgo; have HB1 := hid0 hb1; clear hb1)
      | fail)
    go_returns
    exact ⟨rfl, Below.later HB0.out HB1.out⟩
  | ok cc =>
    rw [hch] at HCh
    simp only
    obtain ⟨_, hc16, _, _⟩ := chain_parts hch
    clear hch
    go_enter Tryz.func7, Tryz.ntmps7
    go_wp2_with (first
      | (go_at_call 12; refine HCh.out.mono ?_; rintro e w1 ⟨hgo, hb1⟩; unfold RefChain at hgo; obtain ⟨v, rfl, ho⟩ := hgo; obtain ⟨ac, kc, rfl, hsc, _⟩ := ho.sa; have HSC := hid0 hsc; have HB1 := hid0 hb1; clear ho hsc hb1)
      | fail)
    go_loopw [8, 9] (fun v i wr => ∃ (k n : Nat) (X : List ByteArray) (a' : Option Addr) (c' : Nat), k ≤ cc.length ∧ i = .int .i64 ((k : Int) - 1) ∧ v = .slice a' n c' ∧ n ≤ (16 - k) * 2000000 ∧ Hid (X.length = n) ∧ Hid (SA wr a' X) ∧ Hid (RiseH X (edsF L (cc.drop k))) ∧ Hid (Below w1.heap.size w1 wr)) (fun _ i _ => (intOf i + 1).toNat)
    case atStart => exact ⟨cc.length, 0, [], none, 0, Nat.le_refl _, by go_num, rfl, Nat.zero_le _, hid0 rfl, hid0 ⟨fun k h => absurd h (Nat.not_lt_zero _)⟩, hid0 (by rw [List.drop_length]; exact RiseH.nil), hid0 (Below.refl _ _)⟩
    case round =>
      obtain ⟨k, n, X, a', c', hk, rfl, rfl, hn, HLn, HSX, HRi, HB⟩ := hrel
      cases k with
      | zero =>
        have hneg : ¬ (0 : Int) ≤ ((0 : Nat) : Int) - 1 := by omega
        have HRe : Hid (RiseH X (edsF L cc)) := hid0 HRi.out
        obtain rfl := HLn.out
        by_cases h2k : (2000 : Int) < (X.length : Int)
        · have HV : Hid (2000 < X.length) := hid0 (by omega)
          clear HRi HLn
          go_wp2
          go_returns
          exact ⟨⟨a', c', X, HSX.out, HRe.out, by rw [if_pos HV.out]; rfl⟩, Below.later HB0.out (Below.later HB1.out HB.out)⟩
        · have HV : Hid (¬ 2000 < X.length) := hid0 (by omega)
          clear HRi HLn
          go_wp2
          go_returns
          exact ⟨⟨a', c', X, HSX.out, HRe.out, by rw [if_neg HV.out]; rfl⟩, Below.later HB0.out (Below.later HB1.out HB.out)⟩
      | succ m =>
        have hm : ((m + 1 : Nat) : Int) - 1 = (m : Int) := by omega
        rw [hm]
        have hm0 : (0 : Int) ≤ (m : Int) := by omega
        have hmc : m < cc.length := by omega
        have hmI : (m : Int) < (cc.length : Int) := by omega
        obtain ⟨r, hr⟩ := idx_ex L cc[m]
        obtain ⟨b, off, rfl, hbl, _⟩ := HSC.out.at' m hmc
        obtain ⟨wz, hwz⟩ : ∃ wz, wz = wr := ⟨_, rfl⟩
        subst hwz
        have HBz : Hid (Below w0.heap.size w0 wz) := hid0 (Below.later HB1.out HB.out)
        have HS : Hid (∀ W : World, Below wz.heap.size wz W → W.cell? ⟨w.heap.size, 0, none⟩ = some (.slice a L.length c) ∧ W.cell? ⟨b, off + m, none⟩ = some (.string cc[m]) ∧ Below wz.heap.size wz W) := hid0 (fun W hW => ⟨HX.out W (Below.later HBz.out hW), by
          obtain ⟨b2, o2, e2, _, c2⟩ := ((HSC.out.below HB.out).below hW).at' m hmc
          cases e2
          exact c2, hW⟩)
        have HSe : Hid (∀ W : World, Below wz.heap.size wz W → Calls Tryz.prog 19 #[.agg #[.slice a L.length c], .string cc[m]] W fun e w' => e = .returned (.int .i64 r) ∧ Below wz.heap.size wz w') := hid0 (fun W hW => (HSc.out _ r hr W (Below.later HBz.out hW)).mono (fun e w' h => ⟨h.1, Below.later hW h.2⟩))
        have HED : Hid (edsF L (cc.drop m) = edsF L (cc.drop (m + 1)) ++ edOf L cc[m]) := hid0 (eds_drop hmc)
        have HR := hid0 hr
        obtain ⟨t0, t1, t2⟩ := HS.out wz (Below.refl _ _)
        clear hr hm
        generalize cc[m] = x at *
        go_wp2
        go_region_held3 (fun W => W.cell? ⟨w.heap.size, 0, none⟩ = some (.slice a L.length c) ∧ W.cell? ⟨b, off + m, none⟩ = some (.string x) ∧ Below wz.heap.size wz W) (first | exact HS.out _ (by assumption) | (go_split_ands; exact HS.out _ (by assumption)) | (go_split_ands; exact HS.out _ (by go_grown)))
          (first | (go_at_call 19; go_split_ands; refine (HSe.out _ (by assumption)).mono ?_; rintro e w2 ⟨rfl, hb2⟩))
        go_split_ands
        have HB2 : Hid (Below wz.heap.size wz w2) := hid0 (by assumption)
        clear t0 t1 t2
        rcases HR.out with ⟨q, hq, rfl, hql, hqn⟩ | ⟨rfl, hqn⟩
        · have hq0 : ¬ (q : Int) < 0 := by omega
          have hq1 : (0 : Int) ≤ (q : Int) := by omega
          have hqI : (q : Int) < (L.length : Int) := by omega
          obtain ⟨gb, gof, ae, ce, rfl, hgl, d0, d1, d2, hea⟩ := (HXA.out w2 (Below.later HBz.out HB2.out)).at' q hq
          obtain ⟨t0, _, _⟩ := HS.out w2 HB2.out
          have HE2 : Hid (edsF L (cc.drop m) = edsF L (cc.drop (m + 1)) ++ L[q].ed) := hid0 (by rw [HED.out, edOf_at hq hql hqn])
          have hed : L[q].ed.length ≤ 2000000 := HBD.out _ (List.getElem_mem hq)
          have HEA : Hid (∀ W : World, Below w2.heap.size w2 W → EA W ae L[q].ed) := hid0 (fun W hW => hea.later hW)
          clear HR HED hql hqn hea d0 d1
          generalize L[q].ed = ed at *
          go_wp2
          go_loopw [8, 12] (fun v i wr => ∃ (j n' : Nat) (X' : List ByteArray) (a2 : Option Addr) (c2 : Nat), j ≤ ed.length ∧ i = .int .i64 (j : Int) ∧ v = .slice a2 n' c2 ∧ n' ≤ n + j ∧ Hid (X'.length = n') ∧ Hid (SA wr a2 X') ∧ Hid (RiseH X' (edsF L (cc.drop (m + 1)) ++ ed.take j)) ∧ Hid (Below w2.heap.size w2 wr)) (fun _ i _ => ed.length - (intOf i).toNat)
          case atStart => exact ⟨0, n, X, a', c', Nat.zero_le _, rfl, rfl, by omega, HLn, hid0 (HSX.out.below HB2.out), hid0 (by rw [List.take_zero, List.append_nil]; exact HRi.out), hid0 (Below.refl _ _)⟩
          case round =>
            obtain ⟨j, n', X', a2, c2, hj, rfl, rfl, hn', HL', HS', HR', HB'⟩ := hrel
            by_cases hlt : j < ed.length
            · have hjI : (j : Int) < (ed.length : Int) := by omega
              have hj0 : (0 : Int) ≤ (j : Int) := by omega
              obtain ⟨b2, o2, rfl, hbl2, e0, e1⟩ := (HEA.out wr HB'.out).at' j hlt
              have HTK : Hid (ed.take (j + 1) = ed.take j ++ [ed[j]]) := hid0 (by rw [List.take_add_one, List.getElem?_eq_getElem hlt]; rfl)
              cases hb1 : ed[j].1 with
              | true =>
                rw [hb1] at e0
                have HW := refWith_any X' a2 c2 ed[j].2 wr (by have := HL'.out; omega) HR'.out.up HS'.out
                rw [HL'.out] at HW
                have HWH := hid0 HW
                have HNx : Hid (∀ Y, Ins X' ed[j].2 Y → RiseH Y (edsF L (cc.drop (m + 1)) ++ ed.take (j + 1))) := hid0 (fun Y hY => by rw [HTK.out, ← List.append_assoc]; exact HR'.out.put hb1 hY)
                clear HW hb1 HTK
                generalize ed[j].2 = en at *
                go_wp2_with (first
                  | (go_at_call 20; refine HWH.out.mono ?_; rintro e w7 ⟨⟨a7, c7, Y, rfl, hs7, hi7, hl7⟩, hb7⟩; have HS7 := hid0 hs7; have HI7 := hid0 (HNx.out Y hi7); have HB7 := hid0 (Below.later HB'.out hb7); clear hs7 hb7 hi7)
                  | fail)
                go_roundw
                case rel => exact ⟨j + 1, Y.length, Y, a7, c7, by omega, by go_num, rfl, by omega, hid0 rfl, HS7, HI7, HB7⟩
                case measure => simp [intOf]; omega
              | false =>
                rw [hb1] at e0
                have HW := refWithout_any X' a2 c2 ed[j].2 wr (by have := HL'.out; omega) HS'.out
                rw [HL'.out] at HW
                have HWH := hid0 HW
                have HNx : Hid (RiseH (outL X' ed[j].2) (edsF L (cc.drop (m + 1)) ++ ed.take (j + 1))) := hid0 (by rw [HTK.out, ← List.append_assoc]; exact HR'.out.out hb1)
                have hle : (outL X' ed[j].2).length ≤ n' := by have := outL_le X' ed[j].2; have := HL'.out; omega
                clear HW hb1 HTK
                generalize outL X' ed[j].2 = Y at *
                generalize ed[j].2 = en at *
                go_wp2_with (first
                  | (go_at_call 21; refine HWH.out.mono ?_; rintro e w7 ⟨⟨v7, rfl, ho⟩, hb7⟩; obtain ⟨a7, c7, rfl, hs7, _⟩ := ho.sa; have HS7 := hid0 hs7; have HB7 := hid0 (Below.later HB'.out hb7); clear ho hs7 hb7)
                  | fail)
                go_roundw
                case rel => exact ⟨j + 1, Y.length, Y, a7, c7, by omega, by go_num, rfl, by omega, hid0 rfl, HS7, HNx, HB7⟩
                case measure => simp [intOf]; omega
            · have hjI : ¬ (j : Int) < (ed.length : Int) := by omega
              have HRx : Hid (RiseH X' (edsF L (cc.drop m))) := hid0 (by have h := HR'.out; rw [List.take_of_length_le (by omega), ← HE2.out] at h; exact h)
              have hn2 : n' ≤ (16 - m) * 2000000 := by omega
              clear HR'
              go_wp2
              go_roundw
              case rel => exact ⟨m, n', X', a2, c2, by omega, by go_num, rfl, hn2, HL', HS', HRx, hid0 (Below.later HB.out (Below.later HB2.out HB'.out))⟩
              case measure => simp [intOf]
        · have HV : Hid (edsF L (cc.drop m) = edsF L (cc.drop (m + 1))) := hid0 (by rw [HED.out, edOf_no hqn, List.append_nil])
          have hn2 : n ≤ (16 - m) * 2000000 := Nat.le_trans hn (Nat.mul_le_mul_right _ (by omega))
          clear hqn HR HED
          go_wp2
          go_roundw
          case rel => exact ⟨m, n, X, a', c', by omega, by go_num, rfl, hn2, HLn, hid0 (HSX.out.below HB2.out), hid0 (by rw [HV.out]; exact HRi.out), hid0 (Below.later HB.out HB2.out)⟩
          case measure => simp [intOf]
end Go.Proofs.YtlnejmmhhmmomaaGreatDoor
namespace Go.Proofs.YtlnejmmhhmmomaaGreatDoor
open Go.RowKit Go.Shelf Go.Lib
theorem rise_uniq : ∀ (l m : List ByteArray), Rising l → Rising m → (∀ x, x ∈ l ↔ x ∈ m) → l = m
  | [], [], _, _, _ => rfl
  | [], y :: m, _, _, h => by have := (h y).2 (by simp); simp at this
  | x :: l, [], _, _, h => by have := (h x).1 (by simp); simp at this
  | x :: l, y :: m, hl, hm, h => by
    have hl' := List.pairwise_cons.1 hl
    have hm' := List.pairwise_cons.1 hm
    have hxy : x = y := by
      rcases List.mem_cons.1 ((h x).1 (by simp)) with e | hx
      · exact e
      · rcases List.mem_cons.1 ((h y).2 (by simp)) with e | hy
        · exact e.symm
        · exact absurd (List.lt_trans (hm'.1 x hx) (hl'.1 y hy)) (List.lt_irrefl _)
    subst hxy
    have hnl : ¬ x ∈ l := fun q => absurd (hl'.1 x q) (List.lt_irrefl _)
    have hnm : ¬ x ∈ m := fun q => absurd (hm'.1 x q) (List.lt_irrefl _)
    congr 1
    refine rise_uniq l m hl'.2 hm'.2 (fun z => ?_)
    constructor
    · intro hz
      rcases List.mem_cons.1 ((h z).1 (List.mem_cons_of_mem _ hz)) with rfl | q
      · exact absurd hz hnl
      · exact q
    · intro hz
      rcases List.mem_cons.1 ((h z).2 (List.mem_cons_of_mem _ hz)) with rfl | q
      · exact absurd hz hnm
      · exact q
theorem rise_same {l m : List ByteArray} {eds : List (Bool × ByteArray)} (hl : Rising l) (hm : ∀ x, x ∈ l ↔ lastE eds x = some true) (h : RiseH m eds) : l = m :=
  rise_uniq l m hl h.up (fun x => by rw [hm x, h.mem x])
end Go.Proofs.YtlnejmmhhmmomaaGreatDoor
namespace Go.Proofs.YtlnejmmhhmmomaaGreatDoor
open Go.RowKit Go.Shelf Go.Lib
def flE (e : Bool × ByteArray) : Bool × ByteArray := (!e.1, e.2)
def flp (s : Sec) : Sec := ⟨s.loc, s.par, s.ed.map flE⟩
def edA (x : SecAt) (l : List (Bool × ByteArray)) : SecAt := ⟨⟨x.s.loc, x.s.par, l⟩, x.blk, x.cap⟩
theorem cellsE_set (l : List (Bool × ByteArray)) : ∀ (j : Nat) (h : j < l.length) (b : Bool), (cellsE l).set (j * 2) (.bool b) = cellsE (l.set j (b, l[j].2)) := by
  induction l with
  | nil => intro j h; simp at h
  | cons u l ih =>
    intro j h b
    have e : cellsE (u :: l) = .bool u.1 :: .string u.2 :: cellsE l := rfl
    cases j with
    | zero => rw [e]; rfl
    | succ j =>
      have h2 := ih j (by simpa using h) b
      rw [e, show (j + 1) * 2 = (j * 2) + 1 + 1 by omega]
      simp only [List.set_cons_succ, List.getElem_cons_succ]
      rw [h2]
      rfl
theorem cellsX_ed (S : List SecAt) : ∀ (k : Nat) (h : k < S.length) (l : List (Bool × ByteArray)), l.length = S[k].s.ed.length → cellsX (S.set k (edA S[k] l)) = cellsX S := by
  induction S with
  | nil => intro k h; simp at h
  | cons u r ih =>
    intro k h l hl
    have e : ∀ (v : SecAt) q, cellsX (v :: q) = .string v.s.loc :: .string v.s.par :: .slice (some ⟨v.blk, 0, none⟩) v.s.ed.length v.cap :: cellsX q := fun _ _ => rfl
    cases k with
    | zero =>
      simp only [List.set_cons_zero, List.getElem_cons_zero] at hl ⊢
      rw [e, e]
      simp only [edA, hl]
    | succ k =>
      have h2 := ih k (by simpa using h) l (by simpa using hl)
      simp only [List.set_cons_succ, List.getElem_cons_succ]
      rw [e, e, h2]
theorem blk_set {S : List SecAt} (k : Nat) (hk : k < S.length) (y : SecAt) (hy : y.blk = S[k].blk) : (S.set k y).map SecAt.blk = S.map SecAt.blk := by
  rw [List.map_set, hy]
  exact List.ext_getElem (by simp) (fun i h1 h2 => by rw [List.getElem_set]; split <;> simp_all)
theorem blk_of {S T : List SecAt} (h : S.map SecAt.blk = T.map SecAt.blk) (k : Nat) (hk : k < S.length) (hk2 : k < T.length) : S[k].blk = T[k].blk := by
  have h1 : (S.map SecAt.blk)[k]? = (T.map SecAt.blk)[k]? := by rw [h]
  simpa [hk, hk2] using h1
theorem Giv.secCell {w : World} {lo g n cap m : Nat} {S : List SecAt} (h : Giv w lo (.slice (some ⟨g, 0, none⟩) n cap) S m) (hn : n = S.length + m) (k : Nat) (hk : k < S.length) : w.cell? ⟨g, k * 3 + 2, none⟩ = some (.slice (some ⟨S[k].blk, 0, none⟩) S[k].s.ed.length S[k].cap) := by
  subst hn
  have hl := cellsX_length S
  rw [World.ownsRow.cellAt h.row _ (by omega), List.getElem?_append_left (by omega)]
  exact (cellsX_at S k hk).2.2
theorem Giv.edCell {w : World} {lo : Nat} {v : Value} {S : List SecAt} {m : Nat} (h : Giv w lo v S m) (k : Nat) (hk : k < S.length) (j : Nat) (hj : j < S[k].s.ed.length) : w.cell? ⟨S[k].blk, j * 2, none⟩ = some (.bool S[k].s.ed[j].1) ∧ w.frozen? ⟨S[k].blk, j * 2, none⟩ = false := by
  have h0 := h.ed S[k] (List.getElem_mem hk)
  have hl : (S[k].s.ed ++ marksE 64).length = S[k].s.ed.length + 64 := by rw [List.length_append, marksE, List.length_replicate]
  have c := (cellsE_at (S[k].s.ed ++ marksE 64) j (by omega)).1
  rw [List.getElem_append_left hj] at c
  exact ⟨by rw [World.ownsRow.cellAt h0 _ (by omega)]; exact c, World.ownsRow.frozenAt h0 _⟩
theorem Giv.edSet {w : World} {lo : Nat} {v : Value} {S : List SecAt} {m : Nat} (h : Giv w lo v S m) (k : Nat) (hk : k < S.length) (j : Nat) (hj : j < S[k].s.ed.length) (b : Bool) : Giv (w.setCell ⟨S[k].blk, j * 2, none⟩ (.bool b)) lo v (S.set k (edA S[k] (S[k].s.ed.set j (b, S[k].s.ed[j].2)))) m := by
  have h0 := h.ed S[k] (List.getElem_mem hk)
  have hne := h.ne S[k] (List.getElem_mem hk)
  have hlen : (S[k].s.ed ++ marksE 64).length = S[k].s.ed.length + 64 := by rw [List.length_append, marksE, List.length_replicate]
  refine ⟨?_, fun x hx => ?_, fun x hx => ?_, pw_set h.pw k hk _ rfl⟩
  · rw [List.length_set, cellsX_ed S k hk _ (by rw [List.length_set])]
    exact own_blk h.row (fun q hq => Below.heap_setCell w _ _ q (fun e => hne (by rw [← show q = S[k].blk from e]; exact hq)))
  · obtain ⟨i, hi, rfl⟩ := List.getElem_of_mem hx
    rw [List.length_set] at hi
    rw [List.getElem_set]
    split
    · have h1 := (World.ownsRow.stored h0 (j * 2) (.bool b)).1
      rw [cellsE_set _ j (by omega), List.set_append_left _ _ hj] at h1
      simp only [edA, List.length_set]
      rw [List.getElem_append_left hj] at h1
      exact h1
    · rename_i hik
      refine own_blk (h.ed S[i] (List.getElem_mem hi)) (fun q hq => ?_)
      cases hq
      refine Below.heap_setCell w _ _ S[i].blk (fun e => ?_)
      have hp := List.pairwise_iff_getElem.1 h.pw
      rcases Nat.lt_or_gt_of_ne hik with h3 | h3
      · exact hp k i hk hi h3 e.symm
      · exact hp i k hi hk h3 e
  · rcases List.mem_or_eq_of_mem_set hx with h2 | h2
    · exact h.ne x h2
    · rw [h2]; exact hne
/-- The first j of a list turned round. -/
def flN (l : List (Bool × ByteArray)) (j : Nat) : List (Bool × ByteArray) := (l.take j).map flE ++ l.drop j
theorem flN_length (l : List (Bool × ByteArray)) (j : Nat) : (flN l j).length = l.length := by simp [flN]; omega
theorem flN_at (l : List (Bool × ByteArray)) (j : Nat) (h : j < l.length) : (flN l j)[j]'(by rw [flN_length]; exact h) = l[j] := by
  unfold flN
  rw [List.getElem_append_right (by simp; omega)]
  simp only [List.getElem_drop, List.length_map, List.length_take]
  congr 1
  omega
theorem flN_step (l : List (Bool × ByteArray)) (j : Nat) (h : j < l.length) : (flN l j).set j (flE l[j]) = flN l (j + 1) := by
  unfold flN
  rw [List.set_append_right _ _ (by simp; omega)]
  simp only [List.length_map, List.length_take]
  rw [show j - min j l.length = 0 by omega, List.drop_eq_getElem_cons h, List.set_cons_zero, List.take_succ_eq_append_getElem h, List.map_append, List.append_assoc]
  rfl
/-- The first k sections turned round, of the next one j edits. -/
def flS (L : List Sec) (k j : Nat) : List Sec := (L.take k).map flp ++ (match L[k]? with
  | some s => [(⟨s.loc, s.par, flN s.ed j⟩ : Sec)]
  | none => []) ++ L.drop (k + 1)
theorem flS_zero (L : List Sec) (k : Nat) : flS L k 0 = (L.take k).map flp ++ L.drop k := by
  unfold flS
  by_cases h : k < L.length
  · rw [List.getElem?_eq_getElem h, List.drop_eq_getElem_cons h, List.append_assoc]
    rfl
  · rw [List.getElem?_eq_none (by omega), List.drop_eq_nil_of_le (by omega), List.drop_eq_nil_of_le (by omega)]
    simp
theorem flS_length (L : List Sec) (k j : Nat) (h : k < L.length) : (flS L k j).length = L.length := by
  unfold flS
  rw [List.getElem?_eq_getElem h]
  simp
  omega
theorem flS_at (L : List Sec) (k j : Nat) (h : k < L.length) : (flS L k j)[k]? = some ⟨L[k].loc, L[k].par, flN L[k].ed j⟩ := by
  unfold flS
  rw [List.getElem?_eq_getElem h, List.append_assoc, List.getElem?_append_right (by simp; omega)]
  simp only [List.length_map, List.length_take]
  rw [show k - min k L.length = 0 by omega]
  rfl
theorem flS_set (L : List Sec) (k j : Nat) (h : k < L.length) (i : Nat) : (flS L k j).set k ⟨L[k].loc, L[k].par, flN L[k].ed i⟩ = flS L k i := by
  unfold flS
  rw [List.getElem?_eq_getElem h, List.append_assoc, List.set_append_right _ _ (by simp; omega)]
  simp only [List.length_map, List.length_take]
  rw [show k - min k L.length = 0 by omega, List.append_assoc]
  rfl
theorem flS_full (L : List Sec) (k : Nat) (h : k < L.length) : flS L k L[k].ed.length = flS L (k + 1) 0 := by
  rw [flS_zero]
  unfold flS
  rw [List.getElem?_eq_getElem h, List.take_succ_eq_append_getElem h, List.map_append]
  have e : flN L[k].ed L[k].ed.length = L[k].ed.map flE := by unfold flN; rw [List.take_of_length_le (Nat.le_refl _), List.drop_eq_nil_of_le (Nat.le_refl _), List.append_nil]
  simp [e, flp]
theorem flS_ed {L : List Sec} {k j : Nat} (h : k < L.length) {S : List SecAt} (hS : S.map (·.s) = flS L k j) (hk : k < S.length) : S[k].s = ⟨L[k].loc, L[k].par, flN L[k].ed j⟩ := by
  have h2 := flS_at L k j h
  rw [← hS, List.getElem?_map, List.getElem?_eq_getElem hk] at h2
  simpa using h2
theorem flS_step {L : List Sec} {k j : Nat} (h : k < L.length) (hj : j < L[k].ed.length) {S : List SecAt} (hS : S.map (·.s) = flS L k j) (hk : k < S.length) (hj2 : j < S[k].s.ed.length) : (S.set k (edA S[k] (S[k].s.ed.set j (!S[k].s.ed[j].1, S[k].s.ed[j].2)))).map (·.s) = flS L k (j + 1) := by
  have e := flS_ed h hS hk
  have e2 : S[k].s.ed = flN L[k].ed j := by rw [e]
  have e3 : S[k].s.ed[j] = L[k].ed[j] := by
    have := flN_at L[k].ed j hj
    rw [← this]
    congr 1
  have e4 : S[k].s.ed.set j (!S[k].s.ed[j].1, S[k].s.ed[j].2) = flN L[k].ed (j + 1) := by
    rw [e3, e2]
    exact flN_step L[k].ed j hj
  rw [List.map_set, hS, e4]
  have e5 : (edA S[k] (flN L[k].ed (j + 1))).s = ⟨L[k].loc, L[k].par, flN L[k].ed (j + 1)⟩ := by simp only [edA]; rw [e]
  rw [e5]
  exact flS_set L k j h (j + 1)
end Go.Proofs.YtlnejmmhhmmomaaGreatDoor
namespace Go.Proofs.YtlnejmmhhmmomaaGreatDoor
open Go.RowKit Go.Shelf Go.Lib
/-- One answer for both. -/
structure ResIs (L : List Sec) (t : ByteArray) (r : CR) : Prop where
  go : ∀ (A : Nat → Addr) (base : Nat) (w' : World) (e : Ending), GoResolve A base w' L t e → ∃ v a cap, e = .returned (.tuple #[v, errR A r]) ∧ v = .slice a (lstR r).length cap ∧ SA w' a (lstR r) ∧ OwnS w' base v (lstR r)
  ref : ∀ (w' : World) (e : Ending), RefResolve w' L t e → ∃ a cap, e = .returned (.tuple #[.slice a (lstR r).length cap, .int .i64 (numR r)]) ∧ SA w' a (lstR r)
  lt : ∀ i, r = .bad i → i < 11
  le : (lstR r).length ≤ 2000
theorem sa_none (w : World) : SA w none [] := ⟨fun _ hk => absurd hk (Nat.not_lt_zero _)⟩
theorem res_ex (L : List Sec) (t : ByteArray) : ∃ r : CR, ResIs L t r := by
  cases hc : chainF L t with
  | bad i =>
    refine ⟨.bad i, fun A base w' e h => ?_, fun w' e h => ?_, fun j hj => ?_, by simp [lstR]⟩
    · unfold GoResolve at h
      rw [hc] at h
      exact ⟨.slice none 0 0, none, 0, h, rfl, sa_none _, World.ownsRow_nil _ _ _ _⟩
    · unfold RefResolve at h
      rw [hc] at h
      exact ⟨none, 0, h, sa_none _⟩
    · cases hj
      exact (chainF_ok L t).1 i hc
  | ok c =>
    by_cases hx : ∃ l, RiseH l (edsF L c)
    · obtain ⟨l, hl⟩ := hx
      by_cases h2 : 2000 < l.length
      · refine ⟨.bad 2, fun A base w' e h => ?_, fun w' e h => ?_, fun j hj => ?_, by simp [lstR]⟩
        · unfold GoResolve at h
          rw [hc] at h
          obtain ⟨v, l', _, h3, h4, h5⟩ := h
          have := rise_same h3 h4 hl
          subst this
          rw [if_pos h2] at h5
          exact ⟨.slice none 0 0, none, 0, h5, rfl, sa_none _, World.ownsRow_nil _ _ _ _⟩
        · unfold RefResolve at h
          rw [hc] at h
          obtain ⟨a, k, l', _, h3, h5⟩ := h
          have := rise_same h3.up h3.mem hl
          subst this
          rw [if_pos h2] at h5
          exact ⟨none, 0, h5, sa_none _⟩
        · cases hj; omega
      · refine ⟨.ok l, fun A base w' e h => ?_, fun w' e h => ?_, (fun j hj => by cases hj), by simp only [lstR]; omega⟩
        · unfold GoResolve at h
          rw [hc] at h
          obtain ⟨v, l', ho, h3, h4, h5⟩ := h
          have := rise_same h3 h4 hl
          subst this
          rw [if_neg h2] at h5
          obtain ⟨a, k, hv, hs, _⟩ := ho.sa
          exact ⟨v, a, k, h5, hv, hs, ho⟩
        · unfold RefResolve at h
          rw [hc] at h
          obtain ⟨a, k, l', hs, h3, h5⟩ := h
          have := rise_same h3.up h3.mem hl
          subst this
          rw [if_neg h2] at h5
          exact ⟨a, k, h5, hs⟩
    · refine ⟨.bad 2, fun A base w' e h => ?_, fun w' e h => ?_, fun j hj => ?_, by simp [lstR]⟩
      · unfold GoResolve at h
        rw [hc] at h
        obtain ⟨v, l', _, h3, h4, _⟩ := h
        exact absurd ⟨l', h3, h4⟩ hx
      · unfold RefResolve at h
        rw [hc] at h
        obtain ⟨a, k, l', _, h3, _⟩ := h
        exact absurd ⟨l', h3⟩ hx
      · cases hj; omega
end Go.Proofs.YtlnejmmhhmmomaaGreatDoor
namespace Go.Proofs.YtlnejmmhhmmomaaGreatDoor
open Go.RowKit Go.Shelf Go.Lib
section
variable {P : Program} (w : World)
theorem run_append_own_front (base : Nat) (t ty e : TypeId) (i : TypeInfo) (z : Value) (size bytes : Nat) (ht : P.underlying t = some (.slice e)) (hi : P.info? e = some i) (hz : i.zero = some z)
    (hsize : i.size = size) (hby : i.bytes = bytes) (hzs : z.cells.size = size) (hsz : 0 < size)
    (v : Value) (n : Nat) (xs : List Value) (hown : w.ownsRow base e size v n xs)
    (a : Addr) (m c : Nat) (news : List Value) (hl : news.length = m * size) (hnews : ∀ j u, news[j]? = some u → w.cell? (a.add j) = some u) (h1 : ∀ u ∈ news, u.oneCell' = true)
    (h63 : n + m ≤ maxLen) (hbytes : (n + m) * bytes ≤ 140737488355328) (hbase : base ≤ w.heap.size) :
    ∃ v' w', (Builtin.append_ #[t, t] ty #[v, .slice (some a) m c]).run P w = .ok v' w' ∧ w'.ownsRow base e size v' (n + m) (xs ++ news) ∧ w.grownBy w' v.ownBlock ∧
      (v'.ownBlock = v.ownBlock ∨ v'.ownBlock = some w.heap.size) ∧ (∀ g j u, v.ownBlock = some g → j < n * size → w.cell? ⟨g, j, none⟩ = some u → w'.cell? ⟨g, j, none⟩ = some u) := by
  obtain ⟨v', w', hr, h2, h3, _, h5⟩ := run_append_own_at (P := P) w base t ty e i z size bytes ht hi hz hsize hby hzs hsz v n xs hown a m c news hl hnews h1 h63 hbytes hbase
  refine ⟨v', w', hr, h2, h3, h5, ?_⟩
  intro g j u hg hj hc
  have hjx : j < xs.length := by rw [hown.1]; exact hj
  have hxu : xs[j]? = some u := by
    have e1 := hown.cells hg j xs[j] (List.getElem?_eq_getElem hjx)
    rw [Addr.add_lit, Nat.zero_add, hc] at e1
    rw [List.getElem?_eq_getElem hjx, ← Option.some.inj e1]
  rcases h5 with h5 | h5
  · have e2 := h2.cells (h5.trans hg) j u (by rw [List.getElem?_append_left hjx]; exact hxu)
    rw [Addr.add_lit, Nat.zero_add] at e2
    exact e2
  · have hglt := (hown.lt g hg).2
    rcases hown.2 with ⟨rfl, _⟩ | ⟨g', cap, cur, rfl, hbg, hgg, hnc, hcm, hcs, htake⟩
    · simp [Value.ownBlock] at hg
    · have hge : g' = g := by simpa [Value.ownBlock] using hg
      subst hge
      by_cases hroom : n + m ≤ cap
      · obtain ⟨w2, hr2, _⟩ := run_append_own_spare (P := P) w base t ty e i size ht hi hsize g' n cap xs hown a m c news hl hnews h1 hroom
        rw [hr] at hr2
        cases hr2
        simp [Value.ownBlock] at h5
        omega
      · subst hsize hby
        have holds : ∀ j u, xs[j]? = some u → w.cell? ((⟨g', 0, none⟩ : Addr).add j) = some u := hown.cells (g := g') rfl
        have hr2 := run_append_grow (P := P) w t ty e i z ht hi hz ⟨g', 0, none⟩ n cap xs hown.1 holds a m c news hl hnews (by omega) (by simp only [maxLen] at h63; omega) (growslice_fits (by omega) hbytes)
        rw [hr] at hr2
        cases hr2
        exact (World.cell?_of_block (w := w) (a := ⟨g', j, none⟩) (heap_alloc_old w.drew _ (r := g') hglt)).trans hc
theorem wpList_append_own_front {ops : Array Oper} {rest : List Oper} {o : Oper} {a : Act} {Q : Exit → Act → World → Prop} (hgd : o.guard = none) (s x : Operand) (t : TypeId)
    (ho : o.op = .call { callee := .builtin .append, args := #[s, x], argTypes := #[t, t] })
    (base : Nat) (e : TypeId) (i : TypeInfo) (z : Value) (size bytes : Nat) (ht : P.underlying t = some (.slice e)) (hi : P.info? e = some i) (hz : i.zero = some z)
    (hsize : i.size = size) (hby : i.bytes = bytes) (hzs : z.cells.size = size) (hsz : 0 < size)
    (v : Value) (n : Nat) (xs : List Value) (hs : a.eval s = v) (hown : w.ownsRow base e size v n xs)
    (ad : Addr) (m c : Nat) (news : List Value) (hx : a.eval x = .slice (some ad) m c) (hl : news.length = m * size) (hnews : ∀ j u, news[j]? = some u → w.cell? (ad.add j) = some u) (h1 : ∀ u ∈ news, u.oneCell' = true)
    (h63 : n + m ≤ maxLen) (hbytes : (n + m) * bytes ≤ 140737488355328) (hbase : base ≤ w.heap.size)
    (h : ∀ v' w', w'.ownsRow base e size v' (n + m) (xs ++ news) → w.grownBy w' v.ownBlock → (v'.ownBlock = v.ownBlock ∨ v'.ownBlock = some w.heap.size) → (∀ g j u, v.ownBlock = some g → j < n * size → w.cell? ⟨g, j, none⟩ = some u → w'.cell? ⟨g, j, none⟩ = some u) → wpList P ops Q rest (a.put o.dst v') w') :
    wpList P ops Q (o :: rest) a w := by
  refine wpList_plain hgd fun K hK => ?_
  obtain ⟨v', w', hr, h2, h3, h4, h5⟩ := run_append_own_front (P := P) w base t o.type e i z size bytes ht hi hz hsize hby hzs hsz v n xs hown ad m c news hl hnews h1 h63 hbytes hbase
  unfold Oper.wp execOp
  simp only [ho, resolve, invoke, builtin, Sem.run_bind, Sem.run_pure, Result.andThen_ok, List.map_toArray, List.map_cons, List.map_nil, hs, hx, hr]
  exact hK _ _ (h v' w' h2 h3 h4 h5)
end

abbrev Lot := List (Value × List ByteArray)
theorem row_later {w w' : World} {base : Nat} {t : TypeId} {size n : Nat} {v : Value} {xs : List Value} (h : w.ownsRow base t size v n xs) (hb : Below w.heap.size w w') : w'.ownsRow base t size v n xs := own_blk h (fun k hk => hb.block k (World.ownsRow.lt h k hk).2)
/-- The slice v holds those of ps; those of qs are made, and are not yet in it. -/
structure Pile (w : World) (base : Nat) (v : Value) (ps qs : Lot) : Prop where
  outer : w.ownsRow base 28 1 v ps.length (ps.map (·.1))
  row : ∀ x ∈ ps ++ qs, OwnS w base x.1 x.2
  apart : (ps ++ qs).Pairwise fun x y => ∀ g, x.1.ownBlock = some g → y.1.ownBlock ≠ some g
  away : ∀ x ∈ ps ++ qs, ∀ g, v.ownBlock = some g → x.1.ownBlock ≠ some g
theorem Pile.nil (w : World) (base : Nat) : Pile w base (.slice none 0 0) [] [] := ⟨World.ownsRow_nil _ _ _ _, by simp, List.Pairwise.nil, by simp⟩
theorem Pile.later {w w' : World} {base : Nat} {v : Value} {ps qs : Lot} (h : Pile w base v ps qs) (hb : Below w.heap.size w w') : Pile w' base v ps qs :=
  ⟨row_later h.outer hb, fun x hx => row_later (h.row x hx) hb, h.apart, h.away⟩
theorem OwnS.lt {w : World} {base : Nat} {v : Value} {l : List ByteArray} (h : OwnS w base v l) {g : Nat} (hg : v.ownBlock = some g) : base ≤ g ∧ g < w.heap.size := World.ownsRow.lt h g hg
/-- One more, made behind the pile. -/
theorem Pile.more {W wr : World} {base : Nat} {v x : Value} {ps qs : Lot} {l : List ByteArray} (h : Pile W base v ps qs) (hk : Below W.heap.size W wr) (hx : OwnS wr W.heap.size x l) (hbase : base ≤ W.heap.size) : Pile wr base v ps (qs ++ [(x, l)]) := by
  have h2 := h.later hk
  have key : ∀ y ∈ ps ++ (qs ++ [(x, l)]), y ∈ ps ++ qs ∨ y = (x, l) := fun y hy => by
    rw [← List.append_assoc] at hy
    rcases List.mem_append.1 hy with hy | hy
    · exact .inl hy
    · exact .inr (List.mem_singleton.1 hy)
  refine ⟨h2.outer, fun y hy => ?_, ?_, fun y hy g hg hyg => ?_⟩
  · rcases key y hy with hy | rfl
    · exact h2.row y hy
    · exact owns_lower hx hbase
  · rw [← List.append_assoc, List.pairwise_append]
    refine ⟨h.apart, List.pairwise_singleton _ _, ?_⟩
    intro y hy z hz g hg hzg
    rw [List.mem_singleton] at hz
    subst hz
    have e1 := ((h.row y hy).lt hg).2
    have e2 := (hx.lt hzg).1
    omega
  · rcases key y hy with hy | rfl
    · exact h.away y hy g hg hyg
    · have e1 := (World.ownsRow.lt h.outer g hg).2
      have e2 := (hx.lt hyg).1
      omega
/-- Those that are made are put into it. -/
theorem Pile.take {w wr w1 : World} {base : Nat} {v v' : Value} {ps qs : Lot} {o : Obj} {n : Nat} (h : Pile wr base v ps qs) (hn : n = (ps ++ qs).length)
    (hown' : w1.ownsRow base 28 1 v' n ((ps ++ qs).map (·.1))) (hgrow : (wr.alloc o).grownBy w1 v.ownBlock) (hat : v'.ownBlock = v.ownBlock ∨ v'.ownBlock = some (wr.alloc o).heap.size) (hb : Below base w wr) (hw : base ≤ w.heap.size) :
    Pile w1 base v' (ps ++ qs) [] ∧ Below base w w1 := by
  subst hn
  have hbs := hb.size
  have old : ∀ (u : Value) (m : List ByteArray), OwnS wr base u m → (∀ g, v.ownBlock = some g → u.ownBlock ≠ some g) → OwnS w1 base u m := fun u m hu hne => by
    refine World.ownsRow.kept (World.ownsRow.alloc hu o) hgrow ?_
    cases e : u.ownBlock with
    | none => exact .inl rfl
    | some g => exact .inr fun hc => hne g hc.symm e
  refine ⟨⟨hown', fun y hy => ?_, by rw [List.append_nil]; exact h.apart, fun y hy g hg hyg => ?_⟩, ?_⟩
  · rw [List.append_nil] at hy
    exact old _ _ (h.row y hy) (h.away y hy)
  · rw [List.append_nil] at hy
    rcases hat with hat | hat
    · rw [hat] at hg
      exact h.away y hy g hg hyg
    · rw [hat] at hg
      have e1 := ((h.row y hy).lt hyg).2
      simp at hg
      omega
  · refine (hb.alloc (by omega) o).grown hgrow ?_ (fun k hk' => (World.ownsRow.lt h.outer k hk').1)
    simp; omega
theorem Pile.cell {w : World} {base g n cap : Nat} {ps qs : Lot} (h : Pile w base (.slice (some ⟨g, 0, none⟩) n cap) ps qs) (hn : ps.length = n) (j : Nat) (hj : j < ps.length) : w.cell? ⟨g, j, none⟩ = some ps[j].1 := by
  have ho := h.outer
  rw [hn] at ho
  rw [World.ownsRow.cellAt ho j (by omega)]
  simp [hj]
theorem cellsS_set (l : List ByteArray) (k : Nat) (s : ByteArray) : (cellsS l).set k (.string s) = cellsS (l.set k s) := by unfold cellsS; rw [List.map_set]
/-- One string of one list written over. -/
theorem Pile.put {w : World} {base : Nat} {v : Value} {ps : Lot} (h : Pile w base v ps []) (i : Nat) (hi : i < ps.length) {g n cap : Nat} {l : List ByteArray} (hp : ps[i] = (.slice (some ⟨g, 0, none⟩) n cap, l)) (hl : l.length = n) (k : Nat) (s : ByteArray) :
    Pile (w.setCell ⟨g, k, none⟩ (.string s)) base v (ps.set i (.slice (some ⟨g, 0, none⟩) n cap, l.set k s)) [] := by
  have hmem : ps[i] ∈ ps := List.getElem_mem hi
  have hnil : ∀ q : Lot, q ++ [] = q := fun q => List.append_nil q
  have hrow : ∀ x ∈ ps, OwnS w base x.1 x.2 := fun x hx => h.row x (by rw [hnil]; exact hx)
  have hri := hrow _ hmem
  have hbl : ps[i].1.ownBlock = some g := by rw [hp]; rfl
  have hawy : ∀ x ∈ ps, ∀ g, v.ownBlock = some g → x.1.ownBlock ≠ some g := fun x hx => h.away x (by rw [hnil]; exact hx)
  have hapt : ps.Pairwise fun x y => ∀ g, x.1.ownBlock = some g → y.1.ownBlock ≠ some g := by have := h.apart; rw [hnil] at this; exact this
  have haw : ∀ g', v.ownBlock = some g' → g' ≠ g := fun g' hg' e => by subst e; exact hawy _ hmem g' hg' hbl
  have hput : OwnS (w.setCell ⟨g, k, none⟩ (.string s)) base (.slice (some ⟨g, 0, none⟩) n cap) (l.set k s) := by
    rw [hp] at hri
    subst hl
    have h1 := (World.ownsRow.stored hri k (.string s)).1
    rw [cellsS_set] at h1
    unfold OwnS
    rw [List.length_set]
    exact h1
  have keep : ∀ {t : TypeId} {size m : Nat} {u : Value} {xs : List Value}, w.ownsRow base t size u m xs → (∀ g', u.ownBlock = some g' → g' ≠ g) → (w.setCell ⟨g, k, none⟩ (.string s)).ownsRow base t size u m xs := by
    intro t size m u xs ho hne
    exact own_blk ho (fun q hq => Below.heap_setCell w _ _ q (hne q hq))
  have hmap : (ps.set i (.slice (some ⟨g, 0, none⟩) n cap, l.set k s)).map (·.1) = ps.map (·.1) := by
    rw [List.map_set]
    apply List.ext_getElem
    · simp
    · intro j h1 h2
      rw [List.getElem_set]
      split
      · subst_vars; simp [hp]
      · rfl
  have hpr : ∀ {R : Value → Value → Prop} (qs : Lot), qs.Pairwise (fun x y => R x.1 y.1) ↔ (qs.map (·.1)).Pairwise R := by
    intro R qs
    rw [List.pairwise_map]
  refine ⟨?_, ?_, ?_, ?_⟩
  · rw [hmap, List.length_set]
    exact keep h.outer haw
  · intro x hx
    rw [hnil] at hx
    obtain ⟨j, hj, rfl⟩ := List.getElem_of_mem hx
    have hj2 : j < ps.length := by simpa using hj
    rw [List.getElem_set]
    split
    · exact hput
    · rename_i hne
      refine keep (hrow _ (List.getElem_mem hj2)) ?_
      intro g' hg' e
      subst e
      have := List.pairwise_iff_getElem.1 hapt
      rcases Nat.lt_or_gt_of_ne hne with hlt | hlt
      · exact this i j hi hj2 hlt g' hbl hg'
      · exact this j i hj2 hi hlt g' hg' hbl
  · rw [hnil]
    have := hapt
    rw [hpr (R := fun x y => ∀ g, x.ownBlock = some g → y.ownBlock ≠ some g)] at this ⊢
    rw [hmap]
    exact this
  · intro x hx g' hg'
    rw [hnil] at hx
    have hx1 : x.1 ∈ ps.map (·.1) := by rw [← hmap]; exact List.mem_map_of_mem hx
    obtain ⟨y, hy, hye⟩ := List.mem_map.1 hx1
    rw [← hye]
    exact hawy y hy g' hg'
/-- The mark of a list. -/
def mkB : Nat → ByteArray
  | 0 => ⟨#[109]⟩
  | 1 => ⟨#[109, 109]⟩
  | 2 => ⟨#[109, 109, 109]⟩
  | 3 => ⟨#[109, 109, 109, 109]⟩
  | 4 => ⟨#[109, 109, 109, 109, 109]⟩
  | _ => ⟨#[109, 109, 109, 109, 109, 109]⟩
/-- The lists while they are written over. -/
structure St (W4 : World) (base g cap : Nat) (i k : Nat) (qs : Lot) (wr : World) : Prop where
  pile : Pile wr base (.slice (some ⟨g, 0, none⟩) 6 cap) qs []
  len : qs.length = 6
  small : ∀ x ∈ qs, x.2.length ≤ 2000
  done : ∀ j x, j < i → qs[j]? = some x → ∀ r ∈ x.2, r = mkB j
  part : ∀ x, qs[i]? = some x → ∀ m (h : m < x.2.length), m < k → x.2[m] = mkB i
  bel : Below base W4 wr
theorem St.rows {W4 wr : World} {base g cap i k : Nat} {qs : Lot} (h : St W4 base g cap i k qs wr) (x : Value × List ByteArray) (hx : x ∈ qs) : OwnS wr base x.1 x.2 := h.pile.row x (by rw [List.append_nil]; exact hx)
theorem St.row {W4 wr : World} {base g cap i k : Nat} {qs : Lot} (h : St W4 base g cap i k qs wr) (hi : i < 6) : ∃ x a c, qs[i]? = some x ∧ x.1 = .slice a x.2.length c ∧ wr.cell? ⟨g, i, none⟩ = some (.slice a x.2.length c) ∧ x.2.length ≤ 2000 := by
  have hl : i < qs.length := by rw [h.len]; exact hi
  have hx : qs[i]? = some qs[i] := List.getElem?_eq_getElem hl
  obtain ⟨a, c, e, _⟩ := (h.rows _ (List.getElem_mem hl)).sa
  exact ⟨qs[i], a, c, hx, e, by rw [h.pile.cell h.len i hl, e], h.small _ (List.getElem_mem hl)⟩
theorem St.next {W4 wr : World} {base g cap i k : Nat} {qs : Lot} (h : St W4 base g cap i k qs wr) {x : Value × List ByteArray} (hx : qs[i]? = some x) (hk : x.2.length ≤ k) : St W4 base g cap (i + 1) 0 qs wr where
  pile := h.pile
  len := h.len
  small := h.small
  done := fun j y hj hy r hr => by
    rcases Nat.lt_or_ge j i with hlt | hge
    · exact h.done j y hlt hy r hr
    · have e : j = i := by omega
      subst e
      rw [hx] at hy
      obtain rfl := Option.some.inj hy
      obtain ⟨m, hm, rfl⟩ := List.getElem_of_mem hr
      exact h.part x hx m hm (by omega)
  part := fun _ _ _ _ hm => absurd hm (Nat.not_lt_zero _)
  bel := h.bel
theorem St.put {W4 wr : World} {base g cap i k : Nat} {qs : Lot} (h : St W4 base g cap i k qs wr) {x : Value × List ByteArray} (hx : qs[i]? = some x) (hk : k < x.2.length) {a : Option Addr} {c : Nat} (hv : x.1 = .slice a x.2.length c) : ∃ g', a = some ⟨g', 0, none⟩ ∧ base ≤ g' ∧ g' ≠ g ∧
    (∃ u0, wr.cell? ⟨g', k, none⟩ = some (.string u0)) ∧ wr.frozen? ⟨g', k, none⟩ = false ∧
    St W4 base g cap i (k + 1) (qs.set i (.slice (some ⟨g', 0, none⟩) x.2.length c, x.2.set k (mkB i))) (wr.setCell ⟨g', k, none⟩ (.string (mkB i))) := by
  obtain ⟨hi, rfl⟩ := List.getElem?_eq_some_iff.1 hx
  have hr := h.rows _ (List.getElem_mem hi)
  obtain ⟨g', c', e, hg', _⟩ := own_form hr (by omega)
  rw [hv] at e
  simp only [Value.slice.injEq, true_and] at e
  obtain ⟨rfl, rfl⟩ := e
  rw [hv] at hr
  have hp : qs[i] = (.slice (some ⟨g', 0, none⟩) qs[i].2.length c, qs[i].2) := Prod.ext hv rfl
  have hne : g' ≠ g := fun e => by
    subst e
    exact h.pile.away _ (by rw [List.append_nil]; exact List.getElem_mem hi) g' rfl (by rw [hv]; rfl)
  refine ⟨g', rfl, hg', hne, ⟨qs[i].2[k], by rw [World.ownsRow.cellAt hr k (by omega)]; simp [cellsS, hk]⟩, World.ownsRow.frozenAt hr _, ?_, ?_, ?_, ?_, ?_, ?_⟩
  · exact h.pile.put i hi hp rfl k _
  · rw [List.length_set]; exact h.len
  · intro y hy
    rcases List.mem_or_eq_of_mem_set hy with hy | rfl
    · exact h.small y hy
    · simp only [List.length_set]
      exact h.small _ (List.getElem_mem hi)
  · intro j y hj hy
    rw [List.getElem?_set_ne (by omega)] at hy
    exact h.done j y hj hy
  · intro y hy m hm hmk
    rw [List.getElem?_set_self hi] at hy
    obtain rfl := Option.some.inj hy
    simp only [List.length_set] at hm
    rw [List.getElem_set]
    split
    · rfl
    · exact h.part _ hx m hm (by omega)
  · exact h.bel.setCell (p := ⟨g', k, none⟩) hg' _
theorem St.later {W4 wr w' : World} {base g cap i k : Nat} {qs : Lot} (h : St W4 base g cap i k qs wr) (hb : Below wr.heap.size wr w') : St W4 base g cap i k qs w' := ⟨h.pile.later hb, h.len, h.small, h.done, h.part, h.bel.trans (hb.mono (by have := World.ownsRow.lt h.pile.outer g rfl; omega))⟩
theorem St.putAt {W4 wr : World} {base g cap i k : Nat} {qs : Lot} (h : St W4 base g cap i k qs wr) {x : Value × List ByteArray} (hx : qs[i]? = some x) (hk : k < x.2.length) {g' c : Nat} (hv : x.1 = .slice (some ⟨g', 0, none⟩) x.2.length c) : St W4 base g cap i (k + 1) (qs.set i (.slice (some ⟨g', 0, none⟩) x.2.length c, x.2.set k (mkB i))) (wr.setCell ⟨g', k, none⟩ (.string (mkB i))) := by
  obtain ⟨g2, e, _, _, _, _, h2⟩ := h.put hx hk hv
  cases e
  exact h2
end Go.Proofs.YtlnejmmhhmmomaaGreatDoor
namespace Go.Proofs.YtlnejmmhhmmomaaGreatDoor
open Go.RowKit Go.Shelf Go.Lib
/-- All read as they did; those from i on are still their own; ms: those that have grown. -/
structure Gr (W4 : World) (base g cap : Nat) (i : Nat) (qs : Lot) (mv : Value) (ms : Lot) (wr : World) : Prop where
  outer : wr.ownsRow base 28 1 (.slice (some ⟨g, 0, none⟩) 6 cap) 6 (qs.map (·.1))
  len : qs.length = 6
  small : ∀ x ∈ qs, x.2.length ≤ 2000
  done : ∀ (j : Nat) (x : Value × List ByteArray), j < 6 → qs[j]? = some x → ∀ r ∈ x.2, r = mkB j
  apart : qs.Pairwise fun x y => ∀ g, x.1.ownBlock = some g → y.1.ownBlock ≠ some g
  away : ∀ x ∈ qs, x.1.ownBlock ≠ some g
  lt : ∀ x ∈ qs, ∀ g', x.1.ownBlock = some g' → g' < wr.heap.size
  read : ∀ x ∈ qs, ∃ a c, x.1 = .slice a x.2.length c ∧ SA wr a x.2
  zero : ∀ x ∈ qs, ∀ b off n c, x.1 = .slice (some ⟨b, off, none⟩) n c → off = 0
  own : ∀ (j : Nat) (x : Value × List ByteArray), i ≤ j → qs[j]? = some x → OwnS wr base x.1 x.2
  mo : wr.ownsRow base 28 1 mv ms.length (ms.map (·.1))
  mown : ∀ x ∈ ms, OwnS wr base x.1 x.2
  mdone : ∀ (j : Nat) (x : Value × List ByteArray), ms[j]? = some x → (∀ r ∈ x.2, r = mkB j) ∧ ∃ y, qs[j]? = some y ∧ x.2.length = y.2.length + 64
  mq : ∀ x ∈ ms, ∀ (j : Nat) (y : Value × List ByteArray), i ≤ j → qs[j]? = some y → ∀ g', x.1.ownBlock = some g' → y.1.ownBlock ≠ some g'
  mg : ∀ x ∈ ms, x.1.ownBlock ≠ some g
  mm : ∀ x ∈ ms, ∀ g', mv.ownBlock = some g' → x.1.ownBlock ≠ some g'
  vg : mv.ownBlock ≠ some g
  vq : ∀ x ∈ qs, ∀ g', mv.ownBlock = some g' → x.1.ownBlock ≠ some g'
  bel : Below base W4 wr
  big : base ≤ wr.heap.size
theorem St.gr {W4 wr : World} {base g cap : Nat} {qs : Lot} (h : St W4 base g cap 6 0 qs wr) (hbig : base ≤ wr.heap.size) : Gr W4 base g cap 0 qs (.slice none 0 0) [] wr where
  outer := by have := h.pile.outer; rw [h.len] at this; exact this
  len := h.len
  small := h.small
  done := h.done
  apart := by have := h.pile.apart; rw [List.append_nil] at this; exact this
  away := fun x hx => h.pile.away x (by rw [List.append_nil]; exact hx) g rfl
  lt := fun x hx g' hg' => ((h.rows x hx).lt hg').2
  read := fun x hx => by obtain ⟨a, c, e, hs, _⟩ := (h.rows x hx).sa; exact ⟨a, c, e, hs⟩
  zero := fun x hx b off n c e => by
    rcases (h.rows x hx).2 with ⟨h0, _⟩ | ⟨g1, cap1, cur, hv, _⟩
    · rw [e] at h0; cases h0
    · rw [e] at hv
      simp only [Value.slice.injEq, Option.some.injEq, Addr.mk.injEq] at hv
      exact hv.1.2.1
  own := fun j x _ hx => h.rows x (List.mem_of_getElem? hx)
  mo := World.ownsRow_nil _ _ _ _
  mown := fun x hx => by cases hx
  mdone := fun j x hx => by simp at hx
  mq := fun x hx => by cases hx
  mg := fun x hx => by cases hx
  mm := fun x hx => by cases hx
  vg := fun e => by cases e
  vq := fun x _ g' e => by cases e
  bel := h.bel
  big := hbig
theorem Gr.cell {W4 wr : World} {base g cap i : Nat} {qs ms : Lot} {mv : Value} (h : Gr W4 base g cap i qs mv ms wr) (j : Nat) {x : Value × List ByteArray} (hx : qs[j]? = some x) : wr.cell? ⟨g, j, none⟩ = some x.1 := by
  obtain ⟨hj, rfl⟩ := List.getElem?_eq_some_iff.1 hx
  have hl := h.len
  rw [World.ownsRow.cellAt h.outer j (by omega)]
  simp [hj]
/-- One list while it grows: lv reads as the list and k more. -/
structure Gw (W4 : World) (base g cap : Nat) (i k : Nat) (x : Value × List ByteArray) (lv : Value) (qs : Lot) (mv : Value) (ms : Lot) (wr : World) : Prop where
  gr : Gr W4 base g cap (i + 1) qs mv ms wr
  at' : qs[i]? = some x
  lo : OwnS wr base lv (x.2 ++ List.replicate k (mkB i))
  away : lv.ownBlock ≠ some g
  apart : ∀ (j : Nat) (y : Value × List ByteArray), j ≠ i → qs[j]? = some y → ∀ g', lv.ownBlock = some g' → y.1.ownBlock ≠ some g'
  lm : ∀ y ∈ ms, ∀ g', lv.ownBlock = some g' → y.1.ownBlock ≠ some g'
  lv' : ∀ g', mv.ownBlock = some g' → lv.ownBlock ≠ some g'
theorem Gr.start {W4 wr : World} {base g cap i : Nat} {qs ms : Lot} {mv : Value} (h : Gr W4 base g cap i qs mv ms wr) {x : Value × List ByteArray} (hx : qs[i]? = some x) : Gw W4 base g cap i 0 x x.1 qs mv ms wr where
  gr := { h with own := fun j y hj hy => h.own j y (by omega) hy, mq := fun y hy j z hj hz => h.mq y hy j z (by omega) hz }
  at' := hx
  lo := by rw [List.replicate_zero, List.append_nil]; exact h.own i x (Nat.le_refl _) hx
  away := h.away x (List.mem_of_getElem? hx)
  apart := fun j y hj hy g' hg' hyg => by
    obtain ⟨hi1, rfl⟩ := List.getElem?_eq_some_iff.1 hx
    obtain ⟨hj1, rfl⟩ := List.getElem?_eq_some_iff.1 hy
    have := List.pairwise_iff_getElem.1 h.apart
    rcases Nat.lt_or_gt_of_ne hj with hlt | hlt
    · exact this j i hj1 hi1 hlt g' hyg hg'
    · exact this i j hi1 hj1 hlt g' hg' hyg
  lm := fun y hy g' hg' hyg => h.mq y hy i x (Nat.le_refl _) hx g' hyg hg'
  lv' := fun g' hg' => h.vq x (List.mem_of_getElem? hx) g' hg'
theorem SA.moved {w w' : World} {a : Option Addr} {l : List ByteArray} (h : SA w a l) (hs : w.heap.size ≤ w'.heap.size) (hk : ∀ b off j u, a = some ⟨b, off, none⟩ → j < l.length → w.cell? ⟨b, off + j, none⟩ = some u → w'.cell? ⟨b, off + j, none⟩ = some u) : SA w' a l := ⟨fun k hl => by
  obtain ⟨b, off, rfl, h1, h2⟩ := h.at' k hl
  exact ⟨b, off, rfl, Nat.lt_of_lt_of_le h1 hs, hk b off k _ rfl hl h2⟩⟩
theorem kept_row {wr w1 : World} {o : Obj} {lv : Value} (hgrow : (wr.alloc o).grownBy w1 lv.ownBlock) {base : Nat} {t : TypeId} {size m : Nat} {u : Value} {xs : List Value} (hu : wr.ownsRow base t size u m xs) (hne : ∀ g', lv.ownBlock = some g' → u.ownBlock ≠ some g') : w1.ownsRow base t size u m xs := by
  refine World.ownsRow.kept (World.ownsRow.alloc hu o) hgrow ?_
  cases e : u.ownBlock with
  | none => exact .inl rfl
  | some g1 => exact .inr fun hc => hne g1 hc.symm e
theorem Gw.step {W4 wr w1 : World} {base g cap i k : Nat} {x : Value × List ByteArray} {lv lv' mv : Value} {qs ms : Lot} {o : Obj} {n : Nat} (h : Gw W4 base g cap i k x lv qs mv ms wr) (hn : n = x.2.length + k)
    (hown' : w1.ownsRow base 9 1 lv' (n + 1) (cellsS (x.2 ++ List.replicate k (mkB i)) ++ [.string (mkB i)])) (hgrow : (wr.alloc o).grownBy w1 lv.ownBlock)
    (hat : lv'.ownBlock = lv.ownBlock ∨ lv'.ownBlock = some (wr.alloc o).heap.size) (hfr : ∀ g j u, lv.ownBlock = some g → j < n * 1 → (wr.alloc o).cell? ⟨g, j, none⟩ = some u → w1.cell? ⟨g, j, none⟩ = some u) : Gw W4 base g cap i (k + 1) x lv' qs mv ms w1 := by
  subst hn
  have hbs := h.gr.big
  have hsz : (wr.alloc o).heap.size = wr.heap.size + 1 := by simp
  have hs1 : wr.heap.size + 1 ≤ w1.heap.size := by have := hgrow.size; omega
  have hB : Below wr.heap.size wr (wr.alloc o) := (Below.refl _ wr).alloc (Nat.le_refl _) o
  have readK : ∀ y ∈ qs, ∃ a c, y.1 = .slice a y.2.length c ∧ SA w1 a y.2 := by
    intro y hy
    obtain ⟨a, c, e, hr⟩ := h.gr.read y hy
    refine ⟨a, c, e, hr.moved (by omega) ?_⟩
    intro b off j u ha hj hc
    subst ha
    have hc2 : (wr.alloc o).cell? ⟨b, off + j, none⟩ = some u := (hB.cell (p := ⟨b, off + j, none⟩) (World.block_lt_of_cell? wr _ hc)).trans hc
    by_cases hlb : lv.ownBlock = some b
    · have hyb : y.1.ownBlock = some b := by rw [e]; rfl
      obtain ⟨jj, hjj⟩ := List.getElem?_of_mem hy
      have hji : jj = i := by
        by_cases hne : jj = i
        · exact hne
        · exact absurd hyb (h.apart jj y hne hjj b hlb)
      subst hji
      rw [h.at'] at hjj
      obtain rfl := Option.some.inj hjj
      have h0 : off = 0 := h.gr.zero _ hy b off _ _ e
      subst h0
      exact hfr b (0 + j) u hlb (by omega) hc2
    · exact hgrow.cell hc2 (fun e => hlb e.symm)
  have hgl : g < wr.heap.size := (World.ownsRow.lt h.gr.outer g rfl).2
  have hnew : ∀ {u : Value}, (∀ g', u.ownBlock = some g' → g' < wr.heap.size) → (∀ g', lv.ownBlock = some g' → u.ownBlock ≠ some g') → ∀ g', lv'.ownBlock = some g' → u.ownBlock ≠ some g' := fun hu hne g' hg' hug => by
    rcases hat with hat | hat
    · rw [hat] at hg'
      exact hne g' hg' hug
    · rw [hat, hsz] at hg'
      have e1 := Option.some.inj hg'
      have e2 := hu g' hug
      omega
  refine ⟨⟨?_, h.gr.len, h.gr.small, h.gr.done, h.gr.apart, h.gr.away, ?_, readK, h.gr.zero, ?_, ?_, ?_, h.gr.mdone, h.gr.mq, h.gr.mg, h.gr.mm, h.gr.vg, h.gr.vq, ?_, by omega⟩, h.at', ?_, ?_, ?_, ?_, ?_⟩
  · refine kept_row hgrow h.gr.outer ?_
    intro g' hg' hc
    have : g = g' := by simpa [Value.ownBlock] using hc
    subst this
    exact h.away hg'
  · intro y hy g' hg'
    have := h.gr.lt y hy g' hg'
    omega
  · intro j y hj hy
    exact kept_row hgrow (h.gr.own j y hj hy) (fun g' hg' => h.apart j y (by omega) hy g' hg')
  · exact kept_row hgrow h.gr.mo (fun g' hg' e => h.lv' g' e hg')
  · intro y hy
    exact kept_row hgrow (h.gr.mown y hy) (h.lm y hy)
  · exact (h.gr.bel.alloc (by omega) o).grown hgrow (by omega) (fun k hk' => (h.lo.lt hk').1)
  · unfold OwnS
    rw [List.replicate_succ', ← List.append_assoc]
    have e1 : (x.2 ++ List.replicate k (mkB i) ++ [mkB i]).length = x.2.length + k + 1 := by simp; omega
    have e2 : cellsS (x.2 ++ List.replicate k (mkB i) ++ [mkB i]) = cellsS (x.2 ++ List.replicate k (mkB i)) ++ [.string (mkB i)] := by simp [cellsS]
    rw [e1, e2]
    exact hown'
  · rcases hat with hat | hat
    · rw [hat]; exact h.away
    · rw [hat, hsz]
      intro e
      have := Option.some.inj e
      omega
  · intro j y hj hy
    exact hnew (h.gr.lt y (List.mem_of_getElem? hy)) (h.apart j y hj hy)
  · intro y hy
    exact hnew (fun g' hg' => ((h.gr.mown y hy).lt hg').2) (h.lm y hy)
  · intro g' hg' e
    exact hnew (u := mv) (fun g' hg' => (World.ownsRow.lt h.gr.mo g' hg').2) (fun g1 h1 e1 => h.lv' g1 e1 h1) g' e hg'
theorem Gw.len {W4 wr : World} {base g cap i k : Nat} {x : Value × List ByteArray} {lv mv : Value} {qs ms : Lot} (h : Gw W4 base g cap i k x lv qs mv ms wr) : ∃ a c, lv = .slice a (x.2.length + k) c := by
  obtain ⟨a, c, e, _⟩ := h.lo.sa
  rw [List.length_append, List.length_replicate] at e
  exact ⟨a, c, e⟩
theorem Gw.row {W4 wr : World} {base g cap i k : Nat} {x : Value × List ByteArray} {lv mv : Value} {qs ms : Lot} (h : Gw W4 base g cap i k x lv qs mv ms wr) {n : Nat} (hn : x.2.length + k = n) : wr.ownsRow base 9 1 lv n (cellsS (x.2 ++ List.replicate k (mkB i))) := by
  have := h.lo
  unfold OwnS at this
  rw [List.length_append, List.length_replicate, hn] at this
  exact this
/-- The grown one is kept. -/
theorem Gw.push {W4 wr w1 : World} {base g cap i : Nat} {x : Value × List ByteArray} {lv mv mv' : Value} {qs ms : Lot} {o : Obj} {n : Nat} (h : Gw W4 base g cap i 64 x lv qs mv ms wr) (hi : i < 6) (hm : ms.length = i) (hn : n = i)
    (hown' : w1.ownsRow base 28 1 mv' (n + 1) (ms.map (·.1) ++ [lv])) (hgrow : (wr.alloc o).grownBy w1 mv.ownBlock)
    (hat : mv'.ownBlock = mv.ownBlock ∨ mv'.ownBlock = some (wr.alloc o).heap.size) : Gr W4 base g cap (i + 1) qs mv' (ms ++ [(lv, x.2 ++ List.replicate 64 (mkB i))]) w1 := by
  subst hn
  have hbs := h.gr.big
  have hsz : (wr.alloc o).heap.size = wr.heap.size + 1 := by simp
  have hs1 : wr.heap.size + 1 ≤ w1.heap.size := by have := hgrow.size; omega
  have hB : Below wr.heap.size wr (wr.alloc o) := (Below.refl _ wr).alloc (Nat.le_refl _) o
  have readK : ∀ y ∈ qs, ∃ a c, y.1 = .slice a y.2.length c ∧ SA w1 a y.2 := by
    intro y hy
    obtain ⟨a, c, e, hr⟩ := h.gr.read y hy
    refine ⟨a, c, e, hr.moved (by omega) ?_⟩
    intro b off j u ha hj hc
    subst ha
    have hc2 : (wr.alloc o).cell? ⟨b, off + j, none⟩ = some u := (hB.cell (p := ⟨b, off + j, none⟩) (World.block_lt_of_cell? wr _ hc)).trans hc
    refine hgrow.cell hc2 (fun e2 => ?_)
    exact h.gr.vq y hy b e2.symm (by rw [e]; rfl)
  have hnew : ∀ {u : Value}, (∀ g', u.ownBlock = some g' → g' < wr.heap.size) → (∀ g', mv.ownBlock = some g' → u.ownBlock ≠ some g') → ∀ g', mv'.ownBlock = some g' → u.ownBlock ≠ some g' := fun hu hne g' hg' hug => by
    rcases hat with hat | hat
    · rw [hat] at hg'
      exact hne g' hg' hug
    · rw [hat, hsz] at hg'
      have e1 := Option.some.inj hg'
      have e2 := hu g' hug
      omega
  have hgl : g < wr.heap.size := (World.ownsRow.lt h.gr.outer g rfl).2
  have hmem : ∀ y ∈ ms ++ [(lv, x.2 ++ List.replicate 64 (mkB n))], y ∈ ms ∨ y = (lv, x.2 ++ List.replicate 64 (mkB n)) := fun y hy => by
    rcases List.mem_append.1 hy with hy | hy
    · exact .inl hy
    · exact .inr (List.mem_singleton.1 hy)
  refine ⟨?_, h.gr.len, h.gr.small, h.gr.done, h.gr.apart, h.gr.away, ?_, readK, h.gr.zero, ?_, ?_, ?_, ?_, ?_, ?_, ?_, ?_, ?_, ?_, by omega⟩
  · refine kept_row hgrow h.gr.outer ?_
    intro g' hg' hc
    have : g = g' := by simpa [Value.ownBlock] using hc
    subst this
    exact h.gr.vg hg'
  · intro y hy g' hg'
    have := h.gr.lt y hy g' hg'
    omega
  · intro j y hj hy
    exact kept_row hgrow (h.gr.own j y hj hy) (h.gr.vq y (List.mem_of_getElem? hy))
  · rw [List.length_append, hm, List.map_append]
    exact hown'
  · intro y hy
    rcases hmem y hy with hy | rfl
    · exact kept_row hgrow (h.gr.mown y hy) (h.gr.mm y hy)
    · exact kept_row hgrow h.lo h.lv'
  · intro j y hy
    by_cases hj : j < ms.length
    · rw [List.getElem?_append_left hj] at hy
      exact h.gr.mdone j y hy
    · rw [List.getElem?_append_right (by omega)] at hy
      have hj2 : j = n := by
        by_cases e : j - ms.length = 0
        · omega
        · rw [List.getElem?_eq_none (by simp; omega)] at hy
          cases hy
      subst hj2
      rw [hm, Nat.sub_self] at hy
      simp only [List.getElem?_cons_zero, Option.some.injEq] at hy
      subst hy
      refine ⟨fun r hr => ?_, x, h.at', by simp⟩
      rcases List.mem_append.1 hr with hr | hr
      · exact h.gr.done j x hi h.at' r hr
      · exact List.eq_of_mem_replicate hr
  · intro y hy j z hj hz
    rcases hmem y hy with hy | rfl
    · exact h.gr.mq y hy j z hj hz
    · exact h.apart j z (by omega) hz
  · intro y hy
    rcases hmem y hy with hy | rfl
    · exact h.gr.mg y hy
    · exact h.away
  · intro y hy
    rcases hmem y hy with hy | rfl
    · exact hnew (fun g' hg' => ((h.gr.mown y hy).lt hg').2) (h.gr.mm y hy)
    · exact hnew (fun g' hg' => (h.lo.lt hg').2) h.lv'
  · rcases hat with hat | hat
    · rw [hat]; exact h.gr.vg
    · rw [hat, hsz]
      intro e
      have := Option.some.inj e
      omega
  · intro y hy
    exact hnew (h.gr.lt y hy) (h.gr.vq y hy)
  · exact (h.gr.bel.alloc (by omega) o).grown hgrow (by omega) (fun k hk' => (World.ownsRow.lt h.gr.mo k hk').1)
theorem Gr.next {W4 wr : World} {base g cap i0 : Nat} {qs ms : Lot} {mv : Value} (h : Gr W4 base g cap i0 qs mv ms wr) (i : Nat) (hi : i < 6) : ∃ x a c, qs[i]? = some x ∧ x.1 = .slice a x.2.length c ∧ wr.cell? ⟨g, i, none⟩ = some (.slice a x.2.length c) ∧ x.2.length ≤ 2000 ∧ SA wr a x.2 ∧ ∀ r ∈ x.2, r = mkB i := by
  have hl : i < qs.length := by rw [h.len]; exact hi
  have hx : qs[i]? = some qs[i] := List.getElem?_eq_getElem hl
  obtain ⟨a, c, e, hr⟩ := h.read _ (List.getElem_mem hl)
  exact ⟨qs[i], a, c, hx, e, by rw [h.cell i hx, e], h.small _ (List.getElem_mem hl), hr, h.done i _ hi hx⟩
theorem Gr.both {W4 wr : World} {base g cap : Nat} {qs ms : Lot} {mv : Value} (h : Gr W4 base g cap 6 qs mv ms wr) (hm : ms.length = 6) : ∃ gm cm, mv = .slice (some ⟨gm, 0, none⟩) 6 cm ∧ ∀ i, i < 6 → ∃ n nm a c am cm', n ≤ 2000 ∧ nm = n + 64 ∧ wr.cell? ⟨g, i, none⟩ = some (.slice a n c) ∧ wr.cell? ⟨gm, i, none⟩ = some (.slice am nm cm') ∧ (∀ k, k < n → ∃ b off, a = some ⟨b, off, none⟩ ∧ wr.cell? ⟨b, off + k, none⟩ = some (.string (mkB i))) ∧ (∀ k, k < nm → ∃ b off, am = some ⟨b, off, none⟩ ∧ wr.cell? ⟨b, off + k, none⟩ = some (.string (mkB i))) := by
  have hmo := h.mo
  rw [hm] at hmo
  obtain ⟨gm, cm, rfl, _⟩ := own_form hmo (by omega)
  refine ⟨gm, cm, rfl, fun i hi => ?_⟩
  obtain ⟨x, a, c, hx, hxv, hxc, hxl, hsa, hall⟩ := h.next i hi
  have hl : i < ms.length := by omega
  obtain ⟨d1, y, hy, d2⟩ := h.mdone i ms[i] (List.getElem?_eq_getElem hl)
  rw [hx] at hy
  obtain rfl := Option.some.inj hy
  obtain ⟨am, cm', e, hsm, _⟩ := (h.mown ms[i] (List.getElem_mem hl)).sa
  refine ⟨x.2.length, x.2.length + 64, a, c, am, cm', hxl, rfl, hxc, ?_, fun k hk => ?_, fun k hk => ?_⟩
  · rw [World.ownsRow.cellAt hmo i (by omega)]
    simp only [List.getElem?_map, List.getElem?_eq_getElem hl, Option.map_some]
    rw [e, d2]
  · obtain ⟨b, off, e1, _, e2⟩ := hsa.at' k hk
    rw [hall _ (List.getElem_mem hk)] at e2
    exact ⟨b, off, e1, e2⟩
  · obtain ⟨b, off, e1, _, e2⟩ := hsm.at' k (by omega)
    rw [d1 _ (List.getElem_mem _)] at e2
    exact ⟨b, off, e1, e2⟩
end Go.Proofs.YtlnejmmhhmmomaaGreatDoor
namespace Go.Proofs.YtlnejmmhhmmomaaGreatDoor
open Go.RowKit Go.Shelf Go.Lib
theorem infoStrs : (Tryz.prog.info? 28).map (fun i => (i.zero, i.size, i.bytes)) = some (some (.slice none 0 0), 1, 24) := by kernel_rfl
set_option maxRecDepth 10000 in
set_option maxHeartbeats 800000 in
theorem mark_any (i : Nat) (hi : i < 6) (w : World) : Calls Tryz.prog 32 #[.int .i64 (i : Int)] w fun e w' => e = .returned (.string (mkB i)) ∧ w' = w := by
  obtain rfl | rfl | rfl | rfl | rfl | rfl : i = 0 ∨ i = 1 ∨ i = 2 ∨ i = 3 ∨ i = 4 ∨ i = 5 := by omega
  all_goals
    go_enter Tryz.func32, Tryz.ntmps32
    go_wp2
    go_ret
    exact ⟨by rfl, rfl⟩
set_option maxRecDepth 10000 in
set_option maxHeartbeats 3200000 in
theorem apart_any (g cap base : Nat) (ps : Lot) (w : World) (hbase : base ≤ w.heap.size) (hP : Pile w base (.slice (some ⟨g, 0, none⟩) 6 cap) ps []) (hl : ps.length = 6) (hs : ∀ x ∈ ps, x.2.length ≤ 2000) :
    Calls Tryz.prog 14 #[.slice (some ⟨g, 0, none⟩) 6 cap] w fun e w' => e = .returned (.bool true) ∧ Below base w w' := by
  obtain ⟨i0, hi', hz0, hz1, hz2⟩ := info_parts infoStr
  obtain ⟨j0, hj', hy0, hy1, hy2⟩ := info_parts infoStrs
  have HST : Hid (St w base g cap 0 0 ps w) := hid0 ⟨hP, hl, hs, fun _ _ hj => absurd hj (Nat.not_lt_zero _), fun _ _ _ _ hm => absurd hm (Nat.not_lt_zero _), Below.refl _ _⟩
  clear hP hl hs
  go_enter Tryz.func14, Tryz.ntmps14
  go_wp2
  go_loopw [4] (fun i wr => ∃ (k : Nat) (qs : Lot), k ≤ 6 ∧ i = .int .i64 (k : Int) ∧ Hid (St w base g cap k 0 qs wr)) (fun i _ => 6 - (intOf i).toNat)
  case atStart => exact ⟨0, ps, by omega, rfl, HST⟩
  case round =>
    clear HST
    obtain ⟨i, qs, hi, rfl, HS⟩ := hrel
    by_cases hlt : i < 6
    · have hiz : (i : Int) < 6 := by omega
      have HMk := hid0 (fun W => mark_any i hlt W)
      go_wp2
      go_loopw [5] (fun j wr => ∃ (k : Nat) (qs : Lot), k ≤ 2000 ∧ j = .int .i64 (k : Int) ∧ Hid (St w base g cap i k qs wr)) (fun j _ => 2000 - (intOf j).toNat)
      case atStart => exact ⟨0, qs, by omega, rfl, HS⟩
      case round =>
        clear HS
        obtain ⟨k, qs, hk, rfl, HS⟩ := hrel
        obtain ⟨x, ax, cx, hx, hxv, hxc, hxl⟩ := HS.out.row hlt
        have HX := hid0 hx
        have HXV := hid0 hxv
        clear hx hxv
        have hi0 : (0 : Int) ≤ (i : Int) := by omega
        by_cases hkl : k < x.2.length
        · obtain ⟨g', rfl, hg', hne, ⟨u0, d0⟩, f0, hput⟩ := HS.out.put HX.out hkl HXV.out
          have HPut := hid0 hput
          clear hput
          generalize x.2.length = n at *
          have hkz : (k : Int) < (n : Int) := by omega
          have hk0 : (0 : Int) ≤ (k : Int) := by omega
          go_wp2
          go_region_with (go_at_call 32; refine (HMk.out _).mono ?_; rintro e w1 ⟨rfl, rfl⟩)
          all_goals
            go_wp2
            go_roundw
            case rel => exact ⟨k + 1, _, by omega, by go_num, hid0 (HPut.out.later ⟨rfl, rfl, rfl, Nat.le_refl _, fun _ _ => rfl⟩)⟩
            case measure => simp [intOf]; omega
        · have HN2 := hid0 (HS.out.next HX.out (Nat.le_of_not_lt hkl))
          have hkz : ¬ (k : Int) < (x.2.length : Int) := by omega
          generalize x.2.length = n at *
          go_wp2
          go_roundw
          case rel => exact ⟨i + 1, _, by omega, by go_num, HN2⟩
          case measure => simp [intOf]; omega
    · have hiz : ¬ (i : Int) < 6 := by omega
      have hiI : (i : Int) = 6 := by omega
      have hi20 : i = 6 := by omega
      rw [hi20] at HS
      have HG := hid0 (HS.out.gr (Nat.le_trans hbase HS.out.bel.size))
      rw [hiI]
      clear HS hiz hlt hi hi20 hiI
      go_wp2
      go_loopw [3, 6] (fun t i wr => ∃ (k : Nat) (mv : Value) (ms : Lot), k ≤ 6 ∧ i = .int .i64 (k : Int) ∧ mv = t ∧ Hid (ms.length = k) ∧ Hid (Gr w base g cap k qs mv ms wr)) (fun _ i _ => 6 - (intOf i).toNat)
      case atStart => exact ⟨0, _, [], by omega, rfl, rfl, hid0 rfl, HG⟩
      case round =>
        clear HG
        obtain ⟨i, mv, ms, hi, rfl, rfl, HML, HG⟩ := hrel
        by_cases hlt : i < 6
        · obtain ⟨x, ax, cx, hx, hxv, hxc, hxl, _, _⟩ := HG.out.next i hlt
          have hw0 := HG.out.start hx
          rw [hxv] at hw0
          have HW0 := hid0 hw0
          have HMk := hid0 (fun W => mark_any i hlt W)
          clear hw0 hxv hx HG
          have hiz : (i : Int) < 6 := by omega
          have hi0 : (0 : Int) ≤ (i : Int) := by omega
          go_wp2
          go_loopw [7, 8] (fun l j wr => ∃ (m : Nat) (lv : Value), m ≤ 64 ∧ j = .int .i64 (m : Int) ∧ lv = l ∧ Hid (Gw w base g cap i m x lv qs mv ms wr)) (fun _ j _ => 64 - (intOf j).toNat)
          case atStart => exact ⟨0, _, by omega, rfl, rfl, HW0⟩
          case round =>
            clear HW0 hxc
            obtain ⟨m, lv, hm, rfl, rfl, HW⟩ := hrel
            have hsW := HW.out.gr.big
            by_cases hml : m < 64
            · have hmz : (m : Int) < 64 := by omega
              go_wp2_with (first
                | (go_at_call 32; refine (HMk.out _).mono ?_; rintro e w1 ⟨rfl, hw1⟩; have hw1' := hw1.symm; subst hw1'; clear hw1)
                | (at_builtin; go_loud (refine wpList_append_own_front _ rfl _ _ 28 rfl base 9 i0 (.string ⟨#[]⟩) 1 16 Tryz.underlying28 hi' hz0 hz1 hz2 rfl (by decide) _ (x.2.length + m) (cellsS (x.2 ++ List.replicate m (mkB i))) rfl (World.ownsRow.alloc (HW.out.row rfl) _) ⟨wr.heap.size, 0, none⟩ 1 1 [.string (mkB i)] rfl rfl (cell_one_new _ _ _) (by simp [Value.oneCell']) (by unfold maxLen; omega) (by omega) (by simp; omega) ?_; intro v1 w1 hown' hgrow hat hfr; have HW1 := hid0 (HW.out.step rfl hown' hgrow hat hfr); clear hown' hgrow hat hfr))
                | fail)
              go_roundw
              case rel => exact ⟨m + 1, _, by omega, by go_num, rfl, HW1⟩
              case measure => simp [intOf]; omega
            · have hmz : ¬ (m : Int) < 64 := by omega
              have hm64 : m = 64 := by omega
              subst hm64
              obtain ⟨al, cl, rfl⟩ := HW.out.len
              go_wp2_with (at_builtin; go_loud (refine wpList_append_own_at _ rfl _ _ 45 rfl base 28 j0 (.slice none 0 0) 1 24 Tryz.underlying45 hj' hy0 hy1 hy2 rfl (by decide) _ i (ms.map (·.1)) rfl (World.ownsRow.alloc (by have h := HW.out.gr.mo; rw [HML.out] at h; exact h) _) ⟨wr.heap.size, 0, none⟩ 1 1 [.slice al (x.2.length + 64) cl] rfl rfl (cell_one_new _ _ _) (by simp [Value.oneCell']) (by unfold maxLen; omega) (by omega) (by simp; omega) ?_; intro v1 w1 hown' hgrow hiff hat; have HG1 := hid0 (HW.out.push hlt HML.out rfl hown' hgrow hat); have HML1 : Hid ((ms ++ [(Value.slice al (x.2.length + 64) cl, x.2 ++ List.replicate 64 (mkB i))]).length = i + 1) := hid0 (by rw [List.length_append, HML.out]; rfl); clear hown' hgrow hat hiff))
              go_roundw
              case rel => exact ⟨i + 1, _, _, by omega, by go_num, rfl, HML1, HG1⟩
              case measure => simp [intOf]; omega
        · have hiz : ¬ (i : Int) < 6 := by omega
          have hiI : (i : Int) = 6 := by omega
          have hi20 : i = 6 := by omega
          rw [hi20] at HG HML
          obtain ⟨gm, cm, rfl, hboth⟩ := HG.out.both HML.out
          rw [hiI]
          have HBo := hid0 hboth
          have HBl := hid0 HG.out.bel
          clear hboth HG HML hi20 hiI hiz
          obtain ⟨wq, hwq⟩ : ∃ wq, wq = wr := ⟨_, rfl⟩
          subst hwq
          go_wp2
          go_loopw [9] (fun i w2 => ∃ k : Nat, k ≤ 6 ∧ i = .int .i64 (k : Int) ∧ ∃ q, w2 = wq.drewN q) (fun i _ => 6 - (intOf i).toNat)
          case atStart => exact ⟨0, by omega, rfl, 0, rfl⟩
          case round =>
            clear hlt hi
            obtain ⟨i, hi, rfl, q, rfl⟩ := hrel
            by_cases hlt : i < 6
            · have hiz : (i : Int) < 6 := by omega
              have hi0 : (0 : Int) ≤ (i : Int) := by omega
              have HMk := hid0 (fun W => mark_any i hlt W)
              obtain ⟨n, nm, a, c, am, cm', hn, hnm, hc1, hc2, hr1, hr2⟩ := HBo.out i hlt
              have HR1 := hid0 hr1
              have HR2 := hid0 hr2
              clear hr1 hr2
              go_wp2
              go_loopw [10] (fun j w2 => ∃ m : Nat, m ≤ nm ∧ j = .int .i64 (m : Int) ∧ ∃ q, w2 = wq.drewN q) (fun j _ => nm - (intOf j).toNat)
              case atStart => exact ⟨0, by omega, rfl, _, rfl⟩
              case round =>
                obtain ⟨m, hm, rfl, q, rfl⟩ := hrel
                have hm0 : (0 : Int) ≤ (m : Int) := by omega
                by_cases hml : m < nm
                · obtain ⟨b2, o2, rfl, d2⟩ := HR2.out m hml
                  have hmz : (m : Int) < (nm : Int) := by omega
                  have hself : ((mkB i).toList == (mkB i).toList) = true := by simp
                  by_cases hmn : m < n
                  · obtain ⟨b1, o1, rfl, d1⟩ := HR1.out m hmn
                    have hmz2 : (m : Int) < (n : Int) := by omega
                    have hd2 : decide ((m : Int) < (n : Int)) = true := decide_eq_true hmz2
                    go_wp2
                    go_quiet ((go_at_call 32; exact (HMk.out _).mono (fun _ _ h => ⟨h.1, _, h.2⟩)))
                    go_wp2
                    go_roundw
                    case rel => exact ⟨m + 1, by omega, by go_num, _, rfl⟩
                    case measure => simp [intOf]; omega
                  · have hmz2 : ¬ (m : Int) < (n : Int) := by omega
                    have hd2 : decide ((m : Int) < (n : Int)) = false := decide_eq_false hmz2
                    go_wp2
                    go_quiet ((go_at_call 32; exact (HMk.out _).mono (fun _ _ h => ⟨h.1, _, h.2⟩)))
                    go_wp2
                    go_roundw
                    case rel => exact ⟨m + 1, by omega, by go_num, _, rfl⟩
                    case measure => simp [intOf]; omega
                · have hmz : ¬ (m : Int) < (nm : Int) := by omega
                  go_wp2
                  go_roundw
                  case rel => exact ⟨i + 1, by omega, by go_num, _, rfl⟩
                  case measure => simp [intOf]; omega
            · have hiz : ¬ (i : Int) < 6 := by omega
              go_wp2
              go_ret
              exact ⟨rfl, below_drew' HBl.out _⟩
end Go.Proofs.YtlnejmmhhmmomaaGreatDoor
