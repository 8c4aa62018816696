/-
  MfAM, MfEW, PlFaM, PlMpM, PlEdW, PlGbM, PlGcM, PlHaM, QlXW, QlEdW.
-/
import Derived.Test.YtbbejfkgopcjoaaDoorNeaz
import Derived.Test.YtbbejfkgopcjoaaDoorNeaa
import Derived.Deep.Cut
import Derived.Test.YtbbejfkgopcjoaaDoorNeab
import Derived.Maps.OwnSet
import Derived.Maps.OwnOps
import Derived.Test.YtbbejfkgopcjoaaDoorNeae
import Derived.Laws.CopyRow
import Derived.Test.YtbbejfkgopcjoaaDoorNeal
import Derived.Test.YtbbejfkgopcjoaaDoorNeac
namespace Go.Proofs.YtbbejfkgopcjoaaDoor
open Go.RowKit Go.Shelf
/-- A state: where each pattern stands; was anything read? -/
abbrev Rst := List (List Nat) × Bool
def reaR (p : Pt) (st : List Nat) (bg : Bool) (q c : Nat) : Bool := (p.le.getD q []).contains c && ((p.fi.contains q && (!p.an || !bg)) || st.any fun y => (p.fo.getD y []).contains q)
def toR (p : Pt) (st : List Nat) (bg : Bool) (c : Nat) : List Nat := (List.range p.le.length).filter fun q => reaR p st bg q c
def stepR (ps : List Pt) (s : Rst) (c : Nat) : Rst := ((List.range ps.length).map fun k => match ps[k]? with | none => [] | some p => toR p (s.1.getD k []) s.2 c, true)
def lastR (p : Pt) (st : List Nat) (bg : Bool) : Bool := st.any (fun x => p.la.contains x) || (p.em && (!p.an || !bg))
def outR (ps : List Pt) (s : Rst) : List Nat := (List.range ps.length).filter fun k => match ps[k]? with | none => false | some p => lastR p (s.1.getD k []) s.2
def startR (ps : List Pt) : Rst := ((List.range ps.length).map fun _ => [], false)
/-- A set of places, pattern by pattern. -/
def stnd (ps : List Pt) (S : Nat → Bool) : List (List Nat) := (List.range ps.length).map fun k => match ps[k]? with | none => [] | some p => (List.range p.le.length).filter fun x => S (plN ps k + x)
theorem stnd_at {ps : List Pt} {S : Nat → Bool} {k : Nat} (hk : k < ps.length) : (stnd ps S).getD k [] = (List.range (ps[k]).le.length).filter fun x => S (plN ps k + x) := by
  unfold stnd
  rw [List.getD_eq_getElem?_getD, List.getElem?_map, List.getElem?_range hk, Option.map_some, Option.getD_some, List.getElem?_eq_getElem hk]
theorem stnd_eq {ps : List Pt} {S S' : Nat → Bool} : stnd ps S = stnd ps S' ↔ ∀ q, q < plN ps ps.length → S q = S' q := by
  constructor
  · intro h q hq
    obtain ⟨k, _, hk, x, hx, rfl⟩ := plN_cover (ps := ps) _ (Nat.le_refl _) q hq
    have e := congrArg (fun l => (l.getD k [] : List Nat).contains x) h
    simp only [stnd_at hk] at e
    have m : ∀ F : Nat → Bool, ((List.range (ps[k]).le.length).filter fun x => F (plN ps k + x)).contains x = F (plN ps k + x) := fun F => by
      rw [Bool.eq_iff_iff, List.contains_iff_mem, List.mem_filter, List.mem_range]
      exact ⟨fun h => h.2, fun h => ⟨hx, h⟩⟩
    rw [m S, m S'] at e
    exact e
  · intro h
    unfold stnd
    refine List.map_congr_left (fun k hk => ?_)
    rw [List.mem_range] at hk
    rw [List.getElem?_eq_getElem hk]
    simp only
    refine List.filter_congr (fun x hx => ?_)
    rw [List.mem_range] at hx
    refine h _ ?_
    have := plN_le ps (k + 1)
    rw [plN_succ hk] at this
    omega
section
variable {ps : List Pt} {sy N : Nat}
theorem step_stnd (hp : ∀ p ∈ ps, PtOk sy p) (hN : plN ps ps.length ≤ 64 * N) (S : Nat → Bool) (c : Nat) : stepR ps (stnd ps S, true) c = (stnd ps (acF (jAcc ps ps.length) N S c), true) := by
  unfold stepR
  congr 1
  unfold stnd
  refine List.map_congr_left (fun k hk => ?_)
  rw [List.mem_range] at hk
  rw [List.getElem?_eq_getElem hk]
  simp only
  unfold toR
  refine List.filter_congr (fun x hx => ?_)
  rw [List.mem_range] at hx
  have a := jAcc_at hp hN ps.length (Nat.le_refl _) k hk hk x hx
  have e0 : ((List.range ps.length).map fun k => match ps[k]? with | none => [] | some p => (List.range p.le.length).filter fun x => S (plN ps k + x)).getD k [] = (List.range (ps[k]).le.length).filter fun x => S (plN ps k + x) := stnd_at hk
  unfold reaR acF
  rw [e0, a.op, ltF_at a, fol_at hp hN hk hx, List.any_filter]
  unfold fol1
  generalize ((ps[k]).le.getD x []).contains c = b1
  generalize (ps[k]).fi.contains x = b2
  generalize (List.range (ps[k]).le.length).any _ = b3
  cases b1 <;> cases b2 <;> cases b3 <;> cases (ps[k]).an <;> rfl
theorem step_start (hp : ∀ p ∈ ps, PtOk sy p) (hN : plN ps ps.length ≤ 64 * N) (c : Nat) : stepR ps (startR ps) c = (stnd ps (ac0 (jAcc ps ps.length) c), true) := by
  unfold stepR startR
  congr 1
  unfold stnd
  refine List.map_congr_left (fun k hk => ?_)
  rw [List.mem_range] at hk
  rw [List.getElem?_eq_getElem hk]
  simp only
  unfold toR
  refine List.filter_congr (fun x hx => ?_)
  rw [List.mem_range] at hx
  have a := jAcc_at hp hN ps.length (Nat.le_refl _) k hk hk x hx
  have e0 : ((List.range ps.length).map fun _ => ([] : List Nat)).getD k [] = [] := by
    rw [List.getD_eq_getElem?_getD, List.getElem?_map, List.getElem?_range hk]; rfl
  unfold reaR ac0
  rw [e0, a.op, a.cl, ltF_at a, List.any_nil]
  generalize ((ps[k]).le.getD x []).contains c = b1
  generalize (ps[k]).fi.contains x = b2
  cases b1 <;> cases b2 <;> cases (ps[k]).an <;> rfl
theorem outR_rise (ps : List Pt) (s : Rst) : (outR ps s).Pairwise (· < ·) := (List.pairwise_lt_range).filter _
theorem mem_outR (ps : List Pt) (s : Rst) (k : Nat) : k ∈ outR ps s ↔ ∃ h : k < ps.length, lastR ps[k] (s.1.getD k []) s.2 = true := by
  unfold outR
  rw [List.mem_filter, List.mem_range]
  constructor
  · rintro ⟨h1, h2⟩
    rw [List.getElem?_eq_getElem h1] at h2
    exact ⟨h1, h2⟩
  · rintro ⟨h1, h2⟩
    exact ⟨h1, by rw [List.getElem?_eq_getElem h1]; exact h2⟩
/-- What ends at a set of places. -/
theorem out_stnd (hp : ∀ p ∈ ps, PtOk sy p) (hN : plN ps ps.length ≤ 64 * N) (S : Nat → Bool) {o : List Nat} (ho : o.Pairwise (· < ·)) (hm : ∀ z, z ∈ o ↔ z ∈ (jAcc ps ps.length).alw ∨ ∃ q, q < 64 * N ∧ S q = true ∧ (jAcc ps ps.length).la q = true ∧ (jAcc ps ps.length).own.getD q 0 = z) : outR ps (stnd ps S, true) = o := by
  have hJ := jAcc_ok hp hN ps.length (Nat.le_refl _)
  have hown := jAcc_own hp ps.length (Nat.le_refl _)
  have hat := jAcc_at hp hN ps.length (Nat.le_refl _)
  refine rise_same (outR_rise _ _) ho (fun k => ?_)
  have hem := (jAcc_em ps ps.length (Nat.le_refl _) k).2
  rw [hm, mem_outR]
  constructor
  · rintro ⟨hk, h⟩
    unfold lastR at h
    rw [stnd_at hk, Bool.or_eq_true, List.any_eq_true] at h
    rcases h with ⟨x, hx, hl⟩ | h
    · rw [List.mem_filter, List.mem_range] at hx
      have a := hat k hk hk x hx.1
      have hlt : plN ps k + x < (jAcc ps ps.length).own.length := (List.getElem?_eq_some_iff.1 a.own).1
      right
      refine ⟨plN ps k + x, by omega, hx.2, a.la.trans hl, ?_⟩
      rw [List.getD_eq_getElem?_getD, a.own]
      rfl
    · left
      rw [Bool.and_eq_true] at h
      refine hem.2 ⟨hk, hk, h.1, ?_⟩
      have := h.2
      cases he : (ps[k]).an with
      | false => rfl
      | true => rw [he] at this; simp at this
  · rintro (h | ⟨q, hq, hS, hla, hok⟩)
    · obtain ⟨_, h2, h3, h4⟩ := hem.1 h
      refine ⟨h2, ?_⟩
      unfold lastR
      rw [h3, h4]
      simp
    · have hql := hJ.la' q hla
      rw [hown] at hql
      obtain ⟨k', g1, g2, x, g3, rfl⟩ := plN_cover (ps := ps) _ (Nat.le_refl _) q hql
      have a := hat k' g1 g2 x g3
      have ek : k' = k := by
        rw [List.getD_eq_getElem?_getD, a.own] at hok
        exact hok
      subst ek
      refine ⟨g2, ?_⟩
      unfold lastR
      rw [stnd_at g2, Bool.or_eq_true, List.any_eq_true]
      left
      exact ⟨x, by rw [List.mem_filter, List.mem_range]; exact ⟨g3, hS⟩, a.la.symm.trans hla⟩
theorem out_start {o : List Nat} (ho : o.Pairwise (· < ·)) (hm : ∀ z, z ∈ o ↔ z ∈ (jAcc ps ps.length).at0) : outR ps (startR ps) = o := by
  refine rise_same (outR_rise _ _) ho (fun k => ?_)
  have hem := (jAcc_em ps ps.length (Nat.le_refl _) k).1
  rw [hm, mem_outR, hem]
  have e0 : ∀ k, k < ps.length → (startR ps).1.getD k [] = [] := fun k hk => by
    unfold startR
    rw [List.getD_eq_getElem?_getD, List.getElem?_map, List.getElem?_range hk]; rfl
  constructor
  · rintro ⟨hk, h⟩
    unfold lastR at h
    rw [e0 k hk, List.any_nil, Bool.false_or, Bool.and_eq_true] at h
    exact ⟨hk, hk, h.1⟩
  · rintro ⟨hk, _, h⟩
    refine ⟨hk, ?_⟩
    unfold lastR
    rw [e0 k hk, h]
    show (false || (true && (!(ps[k]).an || !false))) = true
    cases (ps[k]).an <;> rfl
end
end Go.Proofs.YtbbejfkgopcjoaaDoor
namespace Go.Proofs.YtbbejfkgopcjoaaDoor
open Go.RowKit Go.Shelf
theorem hasL_drop (l : List Int) (z : Int) {k : Nat} (hk : k < l.length) : hasL (l.drop k) z = ((l[k] == z) || hasL (l.drop (k + 1)) z) := by
  unfold hasL
  rw [List.drop_eq_getElem_cons hk, List.any_cons]
set_option maxRecDepth 10000 in
set_option maxHeartbeats 800000 in
theorem hasD_any (l : List Int) (z : Int) (a : Option Addr) (c : Nat) (w : World) (hb : l.length ≤ 1000000000) (hl : IA w a l) :
    Calls Tryd.prog 87 #[.slice a l.length c, .int .i64 z] w fun e w' => e = .returned (.bool (hasL l z)) ∧ w' = w := by
  have HI := hid0 hl
  clear hl
  obtain ⟨n, hn⟩ : ∃ n, n = l.length := ⟨_, rfl⟩
  have HN := hid0 hn
  rw [← hn] at hb ⊢
  clear hn
  go_enter Tryd.func87, Tryd.ntmps87
  go_wp2
  go_loopw [5] (fun i wr => ∃ k : Nat, k ≤ n ∧ i = .int .i64 (k : Int) ∧ Hid (hasL (l.drop k) z = hasL l z) ∧ wr = w) (fun i _ => n - (intOf i).toNat)
  case atStart => exact ⟨0, Nat.zero_le _, rfl, hid0 (by rw [List.drop_zero]), rfl⟩
  case round =>
    obtain ⟨k, hk, rfl, HD, hw⟩ := hrel
    subst hw
    by_cases hlt : k < n
    · have hlt' : k < l.length := by rw [← HN.out]; exact hlt
      obtain ⟨b, off, rfl, _, d⟩ := HI.out.at' k hlt'
      have hkI : (k : Int) < (n : Int) := by omega
      have hkI0 : (0 : Int) ≤ (k : Int) := by omega
      have HS := hid0 (hasL_drop l z hlt')
      generalize l[k] = x at *
      by_cases hx : x = z
      · have hxb : (x == z) = true := by simp [hx]
        have HE : Hid (hasL l z = true) := hid0 (by rw [← HD.out, HS.out, hxb]; rfl)
        subst hx
        clear HS HD
        go_wp2
        go_ret
        exact ⟨by rw [HE.out]; rfl, by trivial⟩
      · have hxb : (x == z) = false := by simp [hx]
        have HD2 : Hid (hasL (l.drop (k + 1)) z = hasL l z) := hid0 (by rw [← HD.out, HS.out, hxb, Bool.false_or])
        clear HS HD
        go_wp2
        go_roundw
        case rel => exact ⟨k + 1, by omega, by go_num, HD2, by trivial⟩
        case measure => simp [intOf]; omega
    · have hkI : ¬ (k : Int) < (n : Int) := by omega
      have HE : Hid (hasL l z = false) := hid0 (by rw [← HD.out, List.drop_of_length_le (by rw [← HN.out]; omega)]; rfl)
      clear HD
      go_wp2
      go_ret
      exact ⟨by rw [HE.out]; rfl, by trivial⟩
def meetL (l m : List Int) : Bool := l.any fun x => hasL m x
theorem meetL_drop (l m : List Int) {k : Nat} (hk : k < l.length) : meetL (l.drop k) m = (hasL m l[k] || meetL (l.drop (k + 1)) m) := by
  unfold meetL
  rw [List.drop_eq_getElem_cons hk, List.any_cons]
set_option maxRecDepth 10000 in
set_option maxHeartbeats 800000 in
theorem meetD_any (l m : List Int) (a b : Option Addr) (ca cb : Nat) (w : World) (hb : l.length ≤ 1000000000) (hb2 : m.length ≤ 1000000000) (hl : IA w a l) (hm : IA w b m) :
    Calls Tryd.prog 63 #[.slice a l.length ca, .slice b m.length cb] w fun e w' => e = .returned (.bool (meetL l m)) ∧ w' = w := by
  have HI := hid0 hl
  have HH : Hid (∀ z : Int, Calls Tryd.prog 87 #[.slice b m.length cb, .int .i64 z] w fun e w' => e = .returned (.bool (hasL m z)) ∧ w' = w) := hid0 (fun z => hasD_any m z b cb w hb2 hm)
  clear hl hm
  obtain ⟨n, hn⟩ : ∃ n, n = l.length := ⟨_, rfl⟩
  have HN := hid0 hn
  rw [← hn] at hb ⊢
  clear hn
  go_enter Tryd.func63, Tryd.ntmps63
  go_wp2
  go_loopw [5] (fun i wr => ∃ k : Nat, k ≤ n ∧ i = .int .i64 (k : Int) ∧ Hid (meetL (l.drop k) m = meetL l m) ∧ wr = w) (fun i _ => n - (intOf i).toNat)
  case atStart => exact ⟨0, Nat.zero_le _, rfl, hid0 (by rw [List.drop_zero]), rfl⟩
  case round =>
    obtain ⟨k, hk, rfl, HD, hw⟩ := hrel
    subst hw
    by_cases hlt : k < n
    · have hlt' : k < l.length := by rw [← HN.out]; exact hlt
      obtain ⟨b, off, rfl, _, d⟩ := HI.out.at' k hlt'
      have hkI : (k : Int) < (n : Int) := by omega
      have hkI0 : (0 : Int) ≤ (k : Int) := by omega
      have HS := hid0 (meetL_drop l m hlt')
      generalize l[k] = x at *
      cases hx : hasL m x with
      | true =>
        have HE : Hid (meetL l m = true) := hid0 (by rw [← HD.out, HS.out, hx]; rfl)
        have HHx := hid0 (HH.out x)
        rw [hx] at HHx
        clear HS HD hx
        go_wp2_with (go_at_call 87; refine HHx.out.mono ?_; rintro e w1 ⟨rfl, hw1⟩; have hw1' := hw1.symm; subst hw1'; clear hw1)
        go_ret
        exact ⟨by rw [HE.out]; rfl, by trivial⟩
      | false =>
        have HD2 : Hid (meetL (l.drop (k + 1)) m = meetL l m) := hid0 (by rw [← HD.out, HS.out, hx, Bool.false_or])
        have HHx := hid0 (HH.out x)
        rw [hx] at HHx
        clear HS HD hx
        go_wp2_with (go_at_call 87; refine HHx.out.mono ?_; rintro e w1 ⟨rfl, hw1⟩; have hw1' := hw1.symm; subst hw1'; clear hw1)
        go_roundw
        case rel => exact ⟨k + 1, by omega, by go_num, HD2, by trivial⟩
        case measure => simp [intOf]; omega
    · have hkI : ¬ (k : Int) < (n : Int) := by omega
      have HE : Hid (meetL l m = false) := hid0 (by rw [← HD.out, List.drop_of_length_le (by rw [← HN.out]; omega)]; rfl)
      clear HD
      go_wp2
      go_ret
      exact ⟨by rw [HE.out]; rfl, by trivial⟩
end Go.Proofs.YtbbejfkgopcjoaaDoor
namespace Go.Proofs.YtbbejfkgopcjoaaDoor
/-- Does place p hold a symbol, as far as the walk has come: to place k's letter q? -/
def hK (Le : List (List Int)) (k q : Nat) (c : Int) (p : Nat) : Bool := (decide (p < k) && hasL (Le.getD p []) c) || (decide (p = k) && hasL ((Le.getD k []).take q) c)
structure HoldI (ks : List Int) (Le : List (List Int)) (k q : Nat) (T : List (List Int)) : Prop where
  len : T.length = ks.length
  say : ∀ i (h : i < ks.length) (p : Nat), hasL (T.getD i []) (p : Int) = hK Le k q ks[i] p
  inn : ∀ i, (T.getD i []).all (oneOf Le.length) = true
theorem HoldI.next {ks : List Int} {Le : List (List Int)} {k q : Nat} {T : List (List Int)} (h : HoldI ks Le k q T) (hk : k < Le.length) (hq : (Le[k]).length ≤ q) : HoldI ks Le (k + 1) 0 T where
  len := h.len
  say := fun i hi' p => by
    rw [h.say i hi']
    have e : Le.getD k [] = Le[k] := by rw [List.getD_eq_getElem?_getD, List.getElem?_eq_getElem hk]; rfl
    unfold hK
    rw [e, List.take_of_length_le hq, List.take_zero, hasL_nil, Bool.and_false, Bool.or_false]
    by_cases hp : p = k
    · subst hp
      rw [decide_eq_true (show p < p + 1 by omega), decide_eq_false (show ¬ p < p by omega), decide_eq_true (rfl : p = p), e]
      simp
    · rw [decide_eq_false hp, Bool.false_and, Bool.or_false]
      by_cases h1 : p < k
      · rw [decide_eq_true h1, decide_eq_true (show p < k + 1 by omega)]
      · rw [decide_eq_false h1, decide_eq_false (show ¬ p < k + 1 by omega)]
  inn := h.inn
end Go.Proofs.YtbbejfkgopcjoaaDoor
namespace Go.Proofs.YtbbejfkgopcjoaaDoor
open Go.RowKit Go.Shelf Go.Lib Go.Maps
theorem lawI : Keyed Tryd.prog 3 := int_keyed Tryd.underlying3
/-- A number that an int may be. -/
def inI (c : Int) : Prop := (Lit.int .i64 c).wf = true
def keyI (c : Int) : Lit := .int .i64 c
theorem keyI_is (c : Int) : WideAt.IsKeyLit (keyI c) := trivial
theorem keyI_inj {c d : Int} (h : keyI c = keyI d) : c = d := by unfold keyI at h; injection h
/-- A map that has the keys ks, each with its number. -/
structure SaysN (D : DataW Unit) (ks : List Int) : Prop where
  size : Maps.size D = ks.length
  has : ∀ c, Maps.has D (keyI c) = decide (c ∈ ks)
  at' : ∀ i (h : i < ks.length), D.atKey (keyI ks[i]) (.lit (.int .i64 0)) = .lit (.int .i64 (i : Int))
  off : ∀ c, c ∉ ks → D.atKey (keyI c) (.lit (.int .i64 0)) = .lit (.int .i64 0)
theorem saysN_nil : SaysN (.map []) [] := ⟨rfl, fun c => by rfl, fun i h => absurd h (Nat.not_lt_zero _), fun c _ => rfl⟩
theorem saysN_put {D : DataW Unit} {ks : List Int} (h : SaysN D ks) (hT : Tidy D) {c : Int} (hc : c ∉ ks) : SaysN (D.put (keyI c) (.lit (.int .i64 (ks.length : Int)))) (ks ++ [c]) where
  size := by
    rw [size_put hT, h.has, decide_eq_false hc, h.size]
    simp
  has := fun d => by
    by_cases e : d = c
    · subst e
      rw [has_put_same hT.isMap (keyI_is _)]
      simp
    · rw [has_put_other (fun he => e (keyI_inj he)), h.has]
      simp [e]
  at' := fun i hi => by
    by_cases e : i < ks.length
    · rw [List.getElem_append_left e, atKey_put_other (fun he => hc (by rw [← keyI_inj he]; exact List.getElem_mem e)), h.at' i e]
    · have e2 : i = ks.length := by simp at hi; omega
      subst e2
      rw [List.getElem_append_right (Nat.le_refl _)]
      simp only [Nat.sub_self, List.getElem_cons_zero]
      exact atKey_put_same hT.isMap (keyI_is _) _ _
  off := fun d hd => by
    rw [List.mem_append, not_or] at hd
    rw [atKey_put_other (fun he => hd.2 (by rw [keyI_inj he]; simp))]
    exact h.off d hd.1
/-- The block B is the map of the symbols ks. -/
def MapN (w : World) (B : Nat) (ks : List Int) : Prop := ∃ D, w.ownsMap Tryd.prog 3 (plainElem Tryd.prog 3) B ks.length D ∧ SaysN D ks
theorem MapN.lt {w : World} {B : Nat} {ks : List Int} (h : MapN w B ks) : B < w.heap.size := by
  obtain ⟨D, h1, _⟩ := h
  exact h1.lt
theorem MapN.keep {w w' : World} {B : Nat} {ks : List Int} (h : MapN w B ks) (hb : w'.heap[B]? = w.heap[B]?) : MapN w' B ks := by
  obtain ⟨D, ⟨es, clock, h1, h2⟩, hs⟩ := h
  exact ⟨D, ⟨es, clock, hb.trans h1, h2⟩, hs⟩
theorem MapN.made (w : World) : MapN (w.alloc (.map #[] 0)) w.heap.size [] := ⟨_, World.ownsMap_made w _ _ _, saysN_nil⟩
set_option maxRecDepth 100000 in
theorem MapN.look {w : World} {B : Nat} {ks : List Int} (h : MapN w B ks) {i : Nat} (hi : i < ks.length) (hc : inI ks[i]) :
    (Instr.lookup 116 (.map (some B)) (.int .i64 ks[i]) true).run Tryd.prog w = .ok (.tuple #[.int .i64 (i : Int), .bool true]) w := by
  obtain ⟨D, h1, hs⟩ := h
  obtain ⟨v, ps, hrun, hv⟩ := h1.look_ok (t := 116) lawI Tryd.underlying116 (Tryd.zeroValue3 w) (plainElem_int Tryd.underlying3 (by decide)) (keyOf_int_mk Tryd.underlying3 hc)
  obtain ⟨c, rfl, hcc, _⟩ := plainElem_int_inv Tryd.underlying3 hv
  have e := congrArg Prod.fst hcc
  have e2 := hs.at' i hi
  unfold keyI at e2
  simp only [e2] at e
  injection e with e
  injection e with _ e
  have h3 := hs.has ks[i]
  unfold keyI at h3
  rw [hrun, ← e, h3, decide_eq_true (List.getElem_mem hi)]
set_option maxRecDepth 100000 in
theorem MapN.lookNot {w : World} {B : Nat} {ks : List Int} (h : MapN w B ks) {d : Int} (hd : d ∉ ks) (hc : inI d) :
    (Instr.lookup 116 (.map (some B)) (.int .i64 d) true).run Tryd.prog w = .ok (.tuple #[.int .i64 0, .bool false]) w := by
  obtain ⟨D, h1, hs⟩ := h
  obtain ⟨v, ps, hrun, hv⟩ := h1.look_ok (t := 116) lawI Tryd.underlying116 (Tryd.zeroValue3 w) (plainElem_int Tryd.underlying3 (by decide)) (keyOf_int_mk Tryd.underlying3 hc)
  obtain ⟨c, rfl, hcc, _⟩ := plainElem_int_inv Tryd.underlying3 hv
  have e := congrArg Prod.fst hcc
  have e2 := hs.off d hd
  unfold keyI at e2
  simp only [e2] at e
  injection e with e
  injection e with _ e
  have h3 := hs.has d
  unfold keyI at h3
  rw [hrun, ← e, h3, decide_eq_false hd]
theorem MapN.len {w : World} {B : Nat} {ks : List Int} (h : MapN w B ks) (ty : TypeId) : (Builtin.len_ #[116] ty #[.map (some B)]).run Tryd.prog w = .ok (.int .i64 (ks.length : Int)) w := by
  obtain ⟨D, h1, hs⟩ := h
  rw [h1.len Tryd.underlying116 ty, hs.size]
theorem MapN.put {w : World} {B : Nat} {ks : List Int} (h : MapN w B ks) {d : Int} (hd : d ∉ ks) (hc : inI d) (hn : ks.length ≤ 1000000000000) :
    ∃ w', (Instr.mapUpdate 116 (.map (some B)) (.int .i64 d) (.int .i64 (ks.length : Int))).run Tryd.prog w = .ok () w' ∧ MapN w' B (ks ++ [d]) ∧ w.grownBy w' (some B) := by
  obtain ⟨D, h1, hs⟩ := h
  have hw : (Lit.int .i64 (ks.length : Int)).wf = true := by simp [Lit.wf, IntKind.min, IntKind.max, IntKind.signed, IntKind.bits]; omega
  obtain ⟨w', hrun, h2, h3⟩ := h1.update (t := 116) lawI Tryd.underlying116 (by unfold maxLen; omega) (keyOf_int_mk Tryd.underlying3 hc) (plainElem_int Tryd.underlying3 hw)
  refine ⟨w', hrun, ⟨_, ?_, saysN_put hs (h1.tidy lawI) hd⟩, h3⟩
  rw [List.length_append]
  exact h2
end Go.Proofs.YtbbejfkgopcjoaaDoor
namespace Go.Proofs.YtbbejfkgopcjoaaDoor
open Go.RowKit Go.Shelf
/-- Rows of places, one beside the other. -/
structure Rws (w : World) (g m : Nat) (Ls : List (List Int)) (R : Nat → Prop) : Prop where
  lt : g < w.heap.size
  in' : R g
  at' : ∀ k (h : k < Ls.length), ∃ x u v, w.cell? ⟨g, k * 2, none⟩ = some u ∧ w.cell? ⟨g, k * 2 + 1, none⟩ = some v ∧ RowIs w m Ls[k] x (.agg #[u, v]) ∧ ∀ b, x = some b → R b
theorem Rws.only {w w' : World} {g m : Nat} {Ls : List (List Int)} {R S : Nat → Prop} (h : Rws w g m Ls R) (ho : Only w w' S) (hs : ∀ k, R k → ¬ S k) : Rws w' g m Ls R :=
  ⟨Nat.lt_of_lt_of_le h.lt ho.size, h.in', fun k hk => by
    obtain ⟨x, u, v, h1, h2, h3, h4⟩ := h.at' k hk
    exact ⟨x, u, v, (ho.cell (p := ⟨g, k * 2, none⟩) h.lt (hs g h.in')).trans h1, (ho.cell (p := ⟨g, k * 2 + 1, none⟩) h.lt (hs g h.in')).trans h2, h3.only ho (fun b hb => hs b (h4 b hb)), h4⟩⟩
end Go.Proofs.YtbbejfkgopcjoaaDoor
namespace Go.Proofs.YtbbejfkgopcjoaaDoor
open Go.RowKit Go.Shelf
/-- Rows that are made. -/
def Made (W : World) (g n : Nat) : Prop := ∃ cur, W.heap[g]? = some (.cells cur 142 (0, 0)) ∧ n * 2 ≤ cur.size
theorem Made.keep {W W' : World} {g n : Nat} (h : Made W g n) (hb : W'.heap[g]? = W.heap[g]?) : Made W' g n := by
  obtain ⟨cur, h1, h2⟩ := h
  exact ⟨cur, hb.trans h1, h2⟩
theorem Made.lt {W : World} {g n : Nat} (h : Made W g n) : g < W.heap.size := by
  obtain ⟨cur, h1, _⟩ := h
  exact (Array.getElem?_eq_some_iff.1 h1).1
theorem Made.cell {W : World} {g n : Nat} (h : Made W g n) (i : Nat) (hi : i < n * 2) : (∃ u, W.cell? ⟨g, i, none⟩ = some u) ∧ W.frozen? ⟨g, i, none⟩ = false := by
  obtain ⟨cur, h1, h2⟩ := h
  refine ⟨⟨cur[i]'(by omega), ?_⟩, by simp [World.frozen?, h1]⟩
  rw [cell_of_row _ _ _ _ _ _ h1]
  exact Array.getElem?_eq_getElem (by omega)
theorem Made.set {W : World} {g n : Nat} (h : Made W g n) (i : Nat) (u : Value) : Made (W.setCell ⟨g, i, none⟩ u) g n := by
  obtain ⟨cur, h1, h2⟩ := h
  exact ⟨_, heap_setCell_same W g i _ _ u h1, by simpa using h2⟩
theorem BS.below {w w' : World} {g m : Nat} {f : Nat → Bool} (h : BS w g m f) (hb : Below w.heap.size w w') : BS w' g m f := h.kept (hb.block g h.lt)
theorem MapN.below {w w' : World} {B : Nat} {ks : List Int} (h : MapN w B ks) (hb : Below w.heap.size w w') : MapN w' B ks := h.keep (hb.block B h.lt)
theorem Made.below {w w' : World} {g n : Nat} (h : Made w g n) (hb : Below w.heap.size w w') : Made w' g n := h.keep (hb.block g h.lt)
end Go.Proofs.YtbbejfkgopcjoaaDoor
namespace Go.Proofs.YtbbejfkgopcjoaaDoor
open Go.RowKit Go.Shelf
/-- Lists of numbers in memory, in blocks that there are. -/
structure RwB (w : World) (a : Option Addr) (L : List (List Int)) : Prop where
  at' : ∀ k (h : k < L.length), ∃ b off, a = some ⟨b, off, none⟩ ∧ b < w.heap.size ∧ ∃ a1 c1, w.cell? ⟨b, off + k, none⟩ = some (.slice a1 (L[k]).length c1) ∧ IA w a1 L[k] ∧ ∀ p, a1 = some p → p.block < w.heap.size
theorem RwB.past {w w' : World} {a : Option Addr} {L : List (List Int)} (h : RwB w a L) (hb : Below w.heap.size w w') : RwB w' a L := ⟨fun k hk => by
  obtain ⟨b, off, rfl, h1, a1, c1, h2, h3, h4⟩ := h.at' k hk
  exact ⟨b, off, rfl, Nat.lt_of_lt_of_le h1 hb.size, a1, c1, (hb.cell (p := ⟨b, off + k, none⟩) h1).trans h2, h3.past hb, fun p hp => Nat.lt_of_lt_of_le (h4 p hp) hb.size⟩⟩
/-- Blocks other than those of the walk. -/
def Oth (gF mp ga gn B b : Nat) : Prop := ¬ b = gF ∧ ¬ b = mp ∧ ¬ b = ga ∧ ¬ b = gn ∧ ¬ b = B
/-- The first k rows. -/
structure FolI (W : World) (g m k : Nat) (Ls : List (List Int)) (Rb : Nat → Prop) : Prop where
  at' : ∀ i (h : i < Ls.length), i < k → ∃ x u v, W.cell? ⟨g, i * 2, none⟩ = some u ∧ W.cell? ⟨g, i * 2 + 1, none⟩ = some v ∧ RowIs W m Ls[i] x (.agg #[u, v]) ∧ ∀ b, x = some b → b < W.heap.size ∧ Rb b
theorem FolI.only {W W' : World} {g m k : Nat} {Ls : List (List Int)} {Rb S : Nat → Prop} (h : FolI W g m k Ls Rb) (hg : g < W.heap.size) (ho : Only W W' S) (hs : ¬ S g) (hb : ∀ b, Rb b → ¬ S b) : FolI W' g m k Ls Rb := ⟨fun i hi hk => by
  obtain ⟨x, u, v, h1, h2, h3, h4⟩ := h.at' i hi hk
  exact ⟨x, u, v, (ho.cell (p := ⟨g, i * 2, none⟩) hg hs).trans h1, (ho.cell (p := ⟨g, i * 2 + 1, none⟩) hg hs).trans h2, h3.only ho (fun b e => hb b (h4 b e).2), fun b e => ⟨Nat.lt_of_lt_of_le (h4 b e).1 ho.size, (h4 b e).2⟩⟩⟩
theorem cell_two {W : World} {g n i j : Nat} (h : Made W g n) (u v : Value) (hi : i < n * 2) : ((W.setCell ⟨g, j, none⟩ u).setCell ⟨g, j + 1, none⟩ v).cell? ⟨g, i, none⟩ = if i = j + 1 then some v else if i = j then some u else W.cell? ⟨g, i, none⟩ := by
  obtain ⟨cur, h1, h2⟩ := h
  have e1 := heap_setCell_same W g j _ _ u h1
  have e2 := heap_setCell_same _ g (j + 1) _ _ v e1
  have hc : i < cur.size := by omega
  rw [cell_of_row _ _ _ _ _ _ e2, cell_of_row _ _ _ _ _ _ h1]
  by_cases h3 : i = j + 1
  · subst h3
    rw [if_pos rfl]
    simp [hc]
  · rw [if_neg h3]
    by_cases h4 : i = j
    · subst h4
      rw [if_pos rfl, Array.getElem?_setIfInBounds_ne (by omega)]
      simp [hc]
    · rw [if_neg h4, Array.getElem?_setIfInBounds_ne (by omega), Array.getElem?_setIfInBounds_ne (by omega)]
/-- Row k is put. -/
theorem FolI.put {W : World} {g m k n : Nat} {Ls : List (List Int)} {Rb : Nat → Prop} (h : FolI W g m k Ls Rb) (hM : Made W g n) (hn : Ls.length ≤ n) (hg : ∀ b, Rb b → ¬ b = g) (hk : k < Ls.length) (x : Option Nat) (u v : Value) (hr : RowIs W m Ls[k] x (.agg #[u, v])) (hx : ∀ b, x = some b → b < W.heap.size ∧ Rb b) :
    FolI ((W.setCell ⟨g, k * 2, none⟩ u).setCell ⟨g, k * 2 + 1, none⟩ v) g m (k + 1) Ls Rb := by
  have ho : Only W ((W.setCell ⟨g, k * 2, none⟩ u).setCell ⟨g, k * 2 + 1, none⟩ v) (fun b => b = g) := (Only.setCell W g (k * 2) u).trans (Only.setCell _ g (k * 2 + 1) v) (fun i hi => .inl hi)
  refine ⟨fun i hi hk' => ?_⟩
  rw [cell_two hM u v (show i * 2 < n * 2 by omega), cell_two hM u v (show i * 2 + 1 < n * 2 by omega)]
  by_cases e : i = k
  · subst e
    rw [if_neg (show ¬ i * 2 = i * 2 + 1 by omega), if_pos rfl, if_pos rfl]
    exact ⟨x, u, v, rfl, rfl, hr.only ho (fun b e => hg b (hx b e).2), fun b e => ⟨Nat.lt_of_lt_of_le (hx b e).1 ho.size, (hx b e).2⟩⟩
  · obtain ⟨x', u', v', h1, h2, h3, h4⟩ := h.at' i hi (by omega)
    rw [if_neg (by omega), if_neg (by omega), if_neg (by omega), if_neg (by omega)]
    exact ⟨x', u', v', h1, h2, h3.only ho (fun b e => hg b (h4 b e).2), fun b e => ⟨Nat.lt_of_lt_of_le (h4 b e).1 ho.size, (h4 b e).2⟩⟩
/-- A walk that is being made. -/
structure NwL (w0 W : World) (n m gF mp ga gn B k : Nat) (ks : List Int) (Fo : List (List Int)) (vH : Value) : Prop where
  row : W.heap[B]? = some (.cells #[.slice (some ⟨gF, 0, none⟩) n n, .map (some mp), vH, .slice (some ⟨ga, 0, none⟩) m m, .slice (some ⟨gn, 0, none⟩) m m] 121 (0, 0))
  fol : Made W gF n
  rws : FolI W gF m k Fo (Oth gF mp ga gn B)
  nu : MapN W mp ks
  at' : BS W ga m (fun _ => false)
  nx : BS W gn m (fun _ => false)
  bel : Below w0.heap.size w0 W
def Apart5 (w0 : World) (gF mp ga gn B : Nat) : Prop := (w0.heap.size ≤ gF ∧ w0.heap.size ≤ mp ∧ w0.heap.size ≤ ga ∧ w0.heap.size ≤ gn ∧ w0.heap.size ≤ B) ∧ ¬ gF = mp ∧ ¬ gF = ga ∧ ¬ gF = gn ∧ ¬ gF = B ∧ ¬ mp = ga ∧ ¬ mp = gn ∧ ¬ mp = B ∧ ¬ ga = gn ∧ ¬ ga = B ∧ ¬ gn = B
theorem NwL.past {w0 W W' : World} {n m gF mp ga gn B k : Nat} {ks : List Int} {Fo : List (List Int)} {vH : Value} (h : NwL w0 W n m gF mp ga gn B k ks Fo vH) (hb : Below W.heap.size W W') : NwL w0 W' n m gF mp ga gn B k ks Fo vH :=
  ⟨(hb.block B (Array.getElem?_eq_some_iff.1 h.row).1).trans h.row, h.fol.below hb, h.rws.only h.fol.lt (Only.ofNew hb (fun _ => False)) (fun e => e) (fun _ _ e => e), h.nu.below hb, h.at'.below hb, h.nx.below hb, h.bel.trans (hb.mono h.bel.size)⟩
theorem NwL.put {w0 W : World} {n m gF mp ga gn B k : Nat} {ks : List Int} {Fo : List (List Int)} {vH : Value} (h : NwL w0 W n m gF mp ga gn B k ks Fo vH) (hA : Apart5 w0 gF mp ga gn B) (hn : Fo.length ≤ n) (hk : k < Fo.length) (x : Option Nat) (u v : Value) (hr : RowIs W m Fo[k] x (.agg #[u, v])) (hx : ∀ b, x = some b → b < W.heap.size ∧ Oth gF mp ga gn B b) :
    NwL w0 ((W.setCell ⟨gF, k * 2, none⟩ u).setCell ⟨gF, k * 2 + 1, none⟩ v) n m gF mp ga gn B (k + 1) ks Fo vH := by
  obtain ⟨⟨l1, l2, l3, l4, l5⟩, n1, n2, n3, n4, n5, n6, n7, n8, n9, n10⟩ := hA
  have hb : ∀ b, ¬ b = gF → ((W.setCell ⟨gF, k * 2, none⟩ u).setCell ⟨gF, k * 2 + 1, none⟩ v).heap[b]? = W.heap[b]? := fun b hb => by
    rw [Below.heap_setCell _ _ _ b hb, Below.heap_setCell _ _ _ b hb]
  exact ⟨(hb B (fun e => n4 e.symm)).trans h.row, (h.fol.set _ _).set _ _, h.rws.put h.fol hn (fun b hb => hb.1) hk x u v hr hx, h.nu.keep (hb mp (fun e => n1 e.symm)), h.at'.kept (hb ga (fun e => n2 e.symm)), h.nx.kept (hb gn (fun e => n3 e.symm)), (h.bel.setCell (p := ⟨gF, k * 2, none⟩) l1 u).setCell (p := ⟨gF, k * 2 + 1, none⟩) l1 v⟩
theorem NwL.map {w0 W W' : World} {n m gF mp ga gn B k : Nat} {ks ks' : List Int} {Fo : List (List Int)} {vH : Value} (h : NwL w0 W n m gF mp ga gn B k ks Fo vH) (hA : Apart5 w0 gF mp ga gn B) (hg : W.grownBy W' (some mp)) (hm : MapN W' mp ks') : NwL w0 W' n m gF mp ga gn B k ks' Fo vH := by
  obtain ⟨⟨l1, l2, l3, l4, l5⟩, n1, n2, n3, n4, n5, n6, n7, n8, n9, n10⟩ := hA
  have ho : Only W W' (fun b => b = mp) := ⟨hg.os, hg.tape, hg.output, hg.size, fun i hi hs => hg.block i hi (fun e => hs (Option.some.inj e))⟩
  exact ⟨(ho.block B (Array.getElem?_eq_some_iff.1 h.row).1 (fun e => n7 e.symm)).trans h.row, h.fol.keep (ho.block gF h.fol.lt n1), h.rws.only h.fol.lt ho n1 (fun b hb => hb.2.1), hm, h.at'.only ho (fun e => n5 e.symm), h.nx.only ho (fun e => n6 e.symm), h.bel.trans (ho.below h.bel.size (fun i hi => by subst hi; exact l2))⟩
theorem NwL.cells {w0 W : World} {n m gF mp ga gn B k : Nat} {ks : List Int} {Fo : List (List Int)} {vH : Value} (h : NwL w0 W n m gF mp ga gn B k ks Fo vH) : W.cell? ⟨B, 0, none⟩ = some (.slice (some ⟨gF, 0, none⟩) n n) ∧ W.cell? ⟨B, 1, none⟩ = some (.map (some mp)) ∧ W.cell? ⟨B, 2, none⟩ = some vH ∧ W.frozen? ⟨B, 2, none⟩ = false :=
  ⟨by rw [cell_of_row _ _ _ _ _ _ h.row]; rfl, by rw [cell_of_row _ _ _ _ _ _ h.row]; rfl, by rw [cell_of_row _ _ _ _ _ _ h.row]; rfl, by simp [World.frozen?, h.row]⟩
/-- The rows of holders that have been added. -/
def HolI (W Wb : World) (m k : Nat) (H : List (List Int)) (Rb : Nat → Prop) (vH : Value) : Prop := ∃ xs, W.ownsRow Wb.heap.size 142 2 vH k xs ∧ ∀ i (h : i < H.length), i < k → ∃ x u v, xs[i * 2]? = some u ∧ xs[i * 2 + 1]? = some v ∧ RowIs W m H[i] x (.agg #[u, v]) ∧ ∀ b, x = some b → (b < W.heap.size ∧ Rb b) ∧ vH.ownBlock ≠ some b
theorem HolI.only {W W' Wb : World} {m k : Nat} {H : List (List Int)} {Rb S : Nat → Prop} {vH : Value} (h : HolI W Wb m k H Rb vH) (ho : Only W W' S) (hs : ∀ b, S b → b < Wb.heap.size) (hb : ∀ b, Rb b → ¬ S b) : HolI W' Wb m k H Rb vH := by
  obtain ⟨xs, h1, h2⟩ := h
  refine ⟨xs, own_blk h1 (fun g hg => ho.block g (World.ownsRow.lt h1 g hg).2 (fun s => by have := hs g s; have := (World.ownsRow.lt h1 g hg).1; omega)), fun i hi hk => ?_⟩
  obtain ⟨x, u, v, e1, e2, h3, h4⟩ := h2 i hi hk
  exact ⟨x, u, v, e1, e2, h3.only ho (fun b e => hb b (h4 b e).1.2), fun b e => ⟨⟨Nat.lt_of_lt_of_le (h4 b e).1.1 ho.size, (h4 b e).1.2⟩, (h4 b e).2⟩⟩
/-- One more row. -/
theorem HolI.put {W1 W2 Wb : World} {m k : Nat} {H : List (List Int)} {Rb : Nat → Prop} {vH v' : Value} {xs : List Value} (h1 : W1.ownsRow Wb.heap.size 142 2 vH k xs)
    (h2 : ∀ i (h : i < H.length), i < k → ∃ x u v, xs[i * 2]? = some u ∧ xs[i * 2 + 1]? = some v ∧ RowIs W1 m H[i] x (.agg #[u, v]) ∧ ∀ b, x = some b → (b < W1.heap.size ∧ Rb b) ∧ vH.ownBlock ≠ some b) (hk : k < H.length)
    (x : Option Nat) (u v : Value) (hr : RowIs W1 m H[k] x (.agg #[u, v])) (hx : ∀ b, x = some b → (b < W1.heap.size ∧ Rb b) ∧ vH.ownBlock ≠ some b) (hown : W2.ownsRow Wb.heap.size 142 2 v' (k + 1) (xs ++ [u, v])) (hg : W1.grownBy W2 vH.ownBlock) (hat : v'.ownBlock = vH.ownBlock ∨ v'.ownBlock = some W1.heap.size) :
    HolI W2 Wb m (k + 1) H Rb v' := by
  have hl : xs.length = k * 2 := by
    have e1 := h1.1
    exact e1
  have ho : Only W1 W2 (fun b => vH.ownBlock = some b) := ⟨hg.os, hg.tape, hg.output, hg.size, fun i hi hs => hg.block i hi (fun e => hs e.symm)⟩
  have hne : ∀ b, b < W1.heap.size → vH.ownBlock ≠ some b → v'.ownBlock ≠ some b := fun b hb hn e => by
    rcases hat with h | h
    · exact hn (h ▸ e)
    · rw [h] at e
      have := Option.some.inj e
      omega
  refine ⟨_, hown, fun i hi hk' => ?_⟩
  by_cases e : i = k
  · subst e
    refine ⟨x, u, v, ?_, ?_, hr.only ho (fun b e => (hx b e).2), fun b e => ⟨⟨Nat.lt_of_lt_of_le (hx b e).1.1 ho.size, (hx b e).1.2⟩, hne b (hx b e).1.1 (hx b e).2⟩⟩
    · rw [List.getElem?_append_right (by omega), hl, Nat.sub_self]; rfl
    · rw [List.getElem?_append_right (by omega), hl, show i * 2 + 1 - i * 2 = 1 by omega]; rfl
  · obtain ⟨x', u', v'', q1, q2, q3, q4⟩ := h2 i hi (by omega)
    have b1 := (List.getElem?_eq_some_iff.1 q1).1
    have b2 := (List.getElem?_eq_some_iff.1 q2).1
    refine ⟨x', u', v'', ?_, ?_, q3.only ho (fun b e => (q4 b e).2), fun b e => ⟨⟨Nat.lt_of_lt_of_le (q4 b e).1.1 ho.size, (q4 b e).1.2⟩, hne b (q4 b e).1.1 (q4 b e).2⟩⟩
    · rw [List.getElem?_append_left b1]; exact q1
    · rw [List.getElem?_append_left b2]; exact q2
end Go.Proofs.YtbbejfkgopcjoaaDoor
namespace Go.Proofs.YtbbejfkgopcjoaaDoor
/-- What is left to be said, from where the walk is and where a step may lead to. -/
def cM (Le Fo : List (List Int)) (La : List Int) (fa fx : Nat → Bool) : List Int → Bool
  | [] => lastF La fa
  | d :: r => contM Le Fo La (atF Le fx d) r
end Go.Proofs.YtbbejfkgopcjoaaDoor
namespace Go.Proofs.YtbbejfkgopcjoaaDoor
open Go.RowKit Go.Shelf
/-- Where a list lies, if it has anything. -/
def blkL (a : Option Addr) (L : List Int) : Option Nat := if L = [] then none else a.map (·.block)
theorem blkL_at {a : Option Addr} {L : List Int} (h : L ≠ []) {p : Addr} (hp : a = some p) : blkL a L = some p.block := by
  unfold blkL
  rw [if_neg h, hp]
  rfl
theorem IA.onlyE {w w' : World} {a : Option Addr} {L : List Int} {S : Nat → Prop} (h : IA w a L) (ho : Only w w' S) (hs : L ≠ [] → ∀ p, a = some p → ¬ S p.block) : IA w' a L := ⟨fun k hk => by
  obtain ⟨b, off, rfl, h1, h2⟩ := h.at' k hk
  have hl : L ≠ [] := by rintro rfl; simp at hk
  exact ⟨b, off, rfl, Nat.lt_of_lt_of_le h1 ho.size, (ho.cell (p := ⟨b, off + k, none⟩) h1 (hs hl ⟨b, off, none⟩ rfl)).trans h2⟩⟩
/-- A row of places. -/
inductive RowJs (w : World) (m : Nat) (L : List Int) : Option Nat → Value → Prop
  | short (a : Option Addr) (c : Nat) (h : IA w a L) : RowJs w m L (blkL a L) (.agg #[.slice a L.length c, .slice none 0 0])
  | long (g : Nat) (h : BS w g m (addF L (fun _ => false))) : RowJs w m L (some g) (.agg #[.slice none 0 0, .slice (some ⟨g, 0, none⟩) m m])
theorem RowJs.only {w w' : World} {m : Nat} {L : List Int} {x : Option Nat} {v : Value} {S : Nat → Prop} (h : RowJs w m L x v) (ho : Only w w' S) (hs : ∀ b, x = some b → ¬ S b) : RowJs w' m L x v := by
  cases h with
  | short a c h => exact .short a c (h.onlyE ho (fun hl p hp => hs _ (blkL_at hl hp)))
  | long g h => exact .long g (h.only ho (hs g rfl))
end Go.Proofs.YtbbejfkgopcjoaaDoor
namespace Go.Proofs.YtbbejfkgopcjoaaDoor
open Go.RowKit Go.Shelf
/-- Rows of places, one beside the other. -/
structure Rwsj (w : World) (g m : Nat) (Ls : List (List Int)) (R : Nat → Prop) : Prop where
  lt : g < w.heap.size
  in' : R g
  at' : ∀ k (h : k < Ls.length), ∃ x u v, w.cell? ⟨g, k * 2, none⟩ = some u ∧ w.cell? ⟨g, k * 2 + 1, none⟩ = some v ∧ RowJs w m Ls[k] x (.agg #[u, v]) ∧ ∀ b, x = some b → R b
theorem Rwsj.only {w w' : World} {g m : Nat} {Ls : List (List Int)} {R S : Nat → Prop} (h : Rwsj w g m Ls R) (ho : Only w w' S) (hs : ∀ k, R k → ¬ S k) : Rwsj w' g m Ls R :=
  ⟨Nat.lt_of_lt_of_le h.lt ho.size, h.in', fun k hk => by
    obtain ⟨x, u, v, h1, h2, h3, h4⟩ := h.at' k hk
    exact ⟨x, u, v, (ho.cell (p := ⟨g, k * 2, none⟩) h.lt (hs g h.in')).trans h1, (ho.cell (p := ⟨g, k * 2 + 1, none⟩) h.lt (hs g h.in')).trans h2, h3.only ho (fun b hb => hs b (h4 b hb)), h4⟩⟩
end Go.Proofs.YtbbejfkgopcjoaaDoor
