/-
  BsFM, BtGW, BtHW, USameW, BuAW, BuKW, Door, SentVP, LaidQ, BakP.
-/
import Derived.Test.YtlfeiadgahdgoaaGreatDoorMkg
import Derived.Laws.StructEq
import Derived.Test.YtlfeiadgahdgoaaGreatDoorCards
import Derived.Test.YtlfeiadgahdgoaaGreatDoorTie
import Derived.WalkKit
import Derived.ProofKit
import Derived.OpenShut
import Derived.Deep.DeepHandedRow
import Derived.Lib.LaidTab
import Derived.Lib.SmallJoins
import Derived.Test.YtlfeiadgahdgoaaGreatDoorMka
import Derived.Stop.LaidErr
import Derived.Test.YtlfeiadgahdgoaaGreatDoorMkb
import Derived.Lib.LaidU8
import Derived.Shelf.Vars
import Derived.Lay
import Derived.LaidMore
import Derived.ChangeSlices
import Derived.Deep.Slices
namespace Go.Proofs.YtlfeiadgahdgoaaGreatDoor
open Go.RowKit Go.Shelf Go.Lib
theorem mem_units (l : List UInt8) : ∀ (d k : Nat), l.length - k ≤ d → ∀ u ∈ unitsAt l k, ∃ j, j < l.length ∧ u = ((uniOf (l.drop j)).1, j, j + (uniOf (l.drop j)).2)
  | 0, k, h, u, hu => by rw [unitsAt_end l k (by omega)] at hu; cases hu
  | d + 1, k, h, u, hu => by
    by_cases hlt : k < l.length
    · have h1 := drop_size l k hlt
      rw [unitsAt_step l k hlt] at hu
      rcases List.mem_cons.1 hu with rfl | hu
      · exact ⟨k, hlt, rfl⟩
      · exact mem_units l d _ (by omega) u hu
    · rw [unitsAt_end l k (by omega)] at hu; cases hu
theorem uni_good {x : List UInt8} (h : (uniOf x).1 ≠ -1) : ∃ p m, goodOf x = some (p, m) ∧ uniOf x = ((p : Int), m) := by
  unfold uniOf at h ⊢
  cases hg : goodOf x with
  | none => rw [hg] at h; exact absurd rfl h
  | some q => obtain ⟨p, m⟩ := q; exact ⟨p, m, rfl, rfl⟩
/-- A unit of a good text. -/
theorem unit_good {l : List UInt8} {k : Nat} {u : Int × Nat × Nat} (hu : u ∈ unitsAt l k) (hb : u.1 ≠ -1) : 0 ≤ u.1 ∧ scalarP ((u.1.toNat : Nat) : Int) = true ∧ (l.drop u.2.1).take (u.2.2 - u.2.1) = encL u.1.toNat := by
  obtain ⟨j, hj, rfl⟩ := mem_units l _ k (Nat.le_refl _) u hu
  simp only at hb ⊢
  obtain ⟨p, m, hg, e⟩ := uni_good hb
  obtain ⟨h1, h2⟩ := good_take_enc hg
  rw [e]
  simp only
  rw [Nat.add_sub_cancel_left]
  exact ⟨by omega, by simpa using h2, by simpa using h1.symm⟩
theorem enc_units (l : List UInt8) : ∀ (d k : Nat), l.length - k ≤ d → k ≤ l.length → (∀ u ∈ unitsAt l k, u.1 ≠ -1) → encAll ((unitsAt l k).map (·.1)) = l.drop k
  | 0, k, h, hk, _ => by
    rw [unitsAt_end l k (by omega), List.drop_eq_nil_of_le (by omega)]
    rfl
  | d + 1, k, h, hk, hb => by
    by_cases hlt : k < l.length
    · have h1 := drop_size l k hlt
      have hu := unitsAt_step l k hlt
      have hm : ((uniOf (l.drop k)).1, k, k + (uniOf (l.drop k)).2) ∈ unitsAt l k := by rw [hu]; exact List.mem_cons_self
      have hg := (unit_good hm (hb _ hm)).2.2
      simp only at hg
      rw [Nat.add_sub_cancel_left] at hg
      have ih := enc_units l d (k + (uniOf (l.drop k)).2) (by omega) (by omega) (fun u hu' => hb u (by rw [hu]; exact List.mem_cons_of_mem _ hu'))
      rw [hu, List.map_cons, encAll, List.flatMap_cons]
      rw [encAll] at ih
      rw [ih, ← hg, ← List.drop_drop, List.take_append_drop]
    · rw [unitsAt_end l k (by omega), List.drop_eq_nil_of_le (by omega)]
      rfl
theorem flat_ext {α : Type} (f g : α → List UInt8) : ∀ (l : List α), (∀ x ∈ l, f x = g x) → l.flatMap f = l.flatMap g
  | [], _ => rfl
  | x :: l, h => by rw [List.flatMap_cons, List.flatMap_cons, h x (.head _), flat_ext f g l (fun y hy => h y (.tail _ hy))]
/-- The points of an entry; true: at an end. -/
def qOf (l : List UInt8) : List (Nat × Bool) := (unitsOf l).map fun u => (u.1.toNat, decide (u.2.1 = 0 ∨ u.2.2 = l.length))
/-- An entry that may be. -/
structure EntG (l : List UInt8) : Prop where
  bad : ∀ u ∈ unitsOf l, u.1 ≠ -1
  pos : 0 < (unitsOf l).length
  few : (unitsOf l).length ≤ 32
theorem entG_of {l : List UInt8} (h : entF l = none) : EntG l := by
  unfold entF at h
  split at h
  · cases h
  · rename_i h1
    split at h
    · cases h
    · split at h
      · cases h
      · exact ⟨fun u hu e => h1 (List.any_eq_true.2 ⟨u, hu, by simp [e]⟩), by omega, by omega⟩
theorem wrE_q {l : List UInt8} (h : EntG l) : wrE l = wrQ (qOf l) := by
  unfold wrE wrQ qOf
  rw [List.flatMap_map]
  refine flat_ext _ _ _ (fun u hu => ?_)
  obtain ⟨h0, _, h2⟩ := unit_good hu (h.bad u hu)
  have e1 : u.1 = 92 ↔ u.1.toNat = 92 := by omega
  have e2 : u.1 = 35 ↔ u.1.toNat = 35 := by omega
  have e3 : u.1 = 32 ↔ u.1.toNat = 32 := by omega
  have e4 : (u.1 < 32 ∨ u.1 = 127) ↔ (u.1.toNat < 32 ∨ u.1.toNat = 127) := by omega
  unfold wrU wrP
  simp only [decide_eq_true_eq, h2, e1, e2, e3, e4]
theorem q_scalar {l : List UInt8} (h : EntG l) : ∀ q ∈ qOf l, scalarP (q.1 : Int) = true := fun q hq => by
  obtain ⟨u, hu, rfl⟩ := List.mem_map.1 hq
  exact (unit_good hu (h.bad u hu)).2.1
theorem q_points {l : List UInt8} (h : EntG l) : toI ((qOf l).map (·.1)) = (unitsOf l).map (·.1) := by
  unfold toI qOf
  rw [List.map_map, List.map_map]
  refine List.map_congr_left (fun u hu => ?_)
  have := (unit_good hu (h.bad u hu)).1
  simp only [Function.comp]
  omega
theorem q_enc {l : List UInt8} (h : EntG l) : encAll (toI ((qOf l).map (·.1))) = l := by
  rw [q_points h]
  have := enc_units l l.length 0 (by omega) (Nat.zero_le _) h.bad
  rw [List.drop_zero] at this
  exact this
theorem q_all {l : List UInt8} (h : EntG l) : (toI ((qOf l).map (·.1))).all scalarP = true := by
  refine List.all_eq_true.2 (fun x hx => ?_)
  unfold toI at hx
  obtain ⟨n, hn, rfl⟩ := List.mem_map.1 hx
  obtain ⟨q, hq, rfl⟩ := List.mem_map.1 hn
  exact q_scalar h q hq
theorem q_len (l : List UInt8) : ((qOf l).map (·.1)).length = (unitsOf l).length := by simp [qOf]
theorem q_ends {l : List UInt8} (h : EntG l) : ∃ p qs ps p', qOf l = (p, true) :: qs ∧ qOf l = ps ++ [(p', true)] := by
  have hl : (qOf l).length = (unitsOf l).length := by simp [qOf]
  have hp := h.pos
  have e0 : (qOf l)[0]'(by omega) = ((unitsOf l)[0].1.toNat, true) := by
    simp only [qOf, List.getElem_map, Prod.mk.injEq, true_and, decide_eq_true_eq]
    exact .inl ((units_at l 0 hp).1.2 rfl)
  have e1 : (qOf l)[(qOf l).length - 1]'(by omega) = ((unitsOf l)[(unitsOf l).length - 1].1.toNat, true) := by
    simp only [qOf, List.getElem_map, List.length_map, Prod.mk.injEq, true_and, decide_eq_true_eq]
    exact .inr ((units_at l _ (by omega)).2.2 (by omega))
  have hne : qOf l ≠ [] := fun e => by rw [e] at hl; simp at hl; omega
  have h3 := List.drop_eq_getElem_cons (l := qOf l) (i := 0) (by omega)
  rw [List.drop_zero] at h3
  refine ⟨(unitsOf l)[0].1.toNat, (qOf l).drop (0 + 1), (qOf l).dropLast, (unitsOf l)[(unitsOf l).length - 1].1.toNat, ?_, ?_⟩
  · rw [← e0]
    exact h3
  · rw [← e1, ← List.getLast_eq_getElem hne]
    exact (List.dropLast_concat_getLast hne).symm
theorem wrE_ends {l : List UInt8} (h : EntG l) : ∃ a x y b, wrE l = a :: x ∧ wrE l = y ++ [b] ∧ blankB a = false ∧ blankB b = false ∧ b ≠ 13 := by
  obtain ⟨p, qs, ps, p', e1, e2⟩ := q_ends h
  have s1 := q_scalar h (p, true) (by rw [e1]; simp)
  have s2 := q_scalar h (p', true) (by rw [e2]; simp)
  obtain ⟨a, x, _, _, w1, _, ha, _, _⟩ := wrP_ends s1
  obtain ⟨_, _, y, b, _, w2, _, hb, hb2⟩ := wrP_ends s2
  refine ⟨a, x ++ wrQ qs, wrQ ps ++ y, b, ?_, ?_, ha, hb, hb2⟩
  · rw [wrE_q h, e1, wrQ_cons, w1]; rfl
  · rw [wrE_q h, e2]
    unfold wrQ
    rw [List.flatMap_append, List.flatMap_singleton, w2, List.append_assoc]
/-- An edit's line. -/
theorem line_ed {P : List Sec} {n : Nat} {s : Sec} {e : Bool × ByteArray} {r : List UInt8} (he : entF e.2.data.toList = none) (hn : nEd (P ++ [s]) < 20000) : parA (P ++ [s]) n (wrX e ++ r) = parA (P ++ [⟨s.loc, s.par, s.ed ++ [e]⟩]) (n + 1) r := by
  have hg := entG_of he
  obtain ⟨a, x, y, b, w1, w2, ha, hb, hb13⟩ := wrE_ends hg
  obtain ⟨ad, t⟩ := e
  simp only at he hg w1 w2
  obtain ⟨sg, hsg⟩ : ∃ sg : UInt8, sg = if ad = true then 43 else 45 := ⟨_, rfl⟩
  have hsc : sg = 43 ∨ sg = 45 := by rw [hsg]; split <;> simp
  have e0 : wrX (ad, t) ++ r = (sg :: 32 :: wrE t.data.toList) ++ 10 :: r := by
    unfold wrX
    cases ad <;> simp [hsg]
  have hl : sg :: 32 :: wrE t.data.toList = (sg :: 32 :: y) ++ [b] := by rw [w2]; rfl
  have h10 : (10 : UInt8) ∉ wrE t.data.toList := by rw [wrE_q hg]; exact wrQ_no10 _ (q_scalar hg)
  rw [e0, parA_line]
  rotate_left
  · intro hm
    rcases List.mem_cons.1 hm with h | h
    · rcases hsc with h2 | h2 <;> rw [h2] at h <;> cases h
    · rcases List.mem_cons.1 h with h | h
      · cases h
      · exact h10 h
  · rw [hl, last_app]
    intro h
    injection h with h
    exact hb13 h
  have e1 : noC (sg :: 32 :: wrE t.data.toList) = sg :: 32 :: wrE t.data.toList := by
    have h1 := noC_app [sg, 32] (wrE t.data.toList) (fun c hc => by
      simp only [List.mem_cons, List.not_mem_nil, or_false] at hc
      rcases hc with rfl | rfl
      · rcases hsc with h2 | h2 <;> rw [h2] <;> decide
      · decide)
    rw [show noC (wrE t.data.toList) = wrE t.data.toList by rw [wrE_q hg]; exact wrQ_noC _ (q_scalar hg)] at h1
    exact h1
  have e2 : lineB (sg :: 32 :: wrE t.data.toList) = sg :: 32 :: wrE t.data.toList := by
    unfold lineB
    rw [e1]
    exact trimS_id hl (by rcases hsc with h2 | h2 <;> rw [h2] <;> decide) hb
  have e3 : ∀ ad', edS (P ++ [s]) ad' (32 :: wrE t.data.toList) = .go (P ++ [⟨s.loc, s.par, s.ed ++ [(ad', t)]⟩]) := fun ad' => by
    unfold edS
    have hq := q_len t.data.toList
    have hp := hg.pos
    have hf := hg.few
    have e7 : strOf t.data.toList = t := rfl
    rw [trimL_one, w1, trimL_id ha, ← w1, wrE_q hg, pnts_wrQ _ (q_scalar hg)]
    simp only
    rw [if_pos ⟨q_all hg, by omega⟩]
    simp only [List.getLast?_append, List.getLast?_singleton, Option.some_or, List.dropLast_concat]
    rw [if_pos ⟨by omega, hn⟩, q_enc hg, e7]
  have e4 : lineS (P ++ [s]) (sg :: 32 :: wrE t.data.toList) = .go (P ++ [⟨s.loc, s.par, s.ed ++ [(ad, t)]⟩]) := by
    unfold lineS
    rw [if_neg (by simp)]
    cases ad with
    | true =>
      have hs : sg = 43 := hsg
      subst hs
      rw [if_neg (by simp [Lib.hasPrefix, List.isPrefixOf]), if_neg (by simp [Lib.hasPrefix, parW, List.isPrefixOf]), if_pos (by simp [Lib.hasPrefix, List.isPrefixOf]), show Lib.trimPrefix (43 :: 32 :: wrE t.data.toList) [43] = 32 :: wrE t.data.toList by simp [Lib.trimPrefix, Lib.hasPrefix, List.isPrefixOf]]
      exact e3 true
    | false =>
      have hs : sg = 45 := hsg
      subst hs
      rw [if_neg (by simp [Lib.hasPrefix, List.isPrefixOf]), if_neg (by simp [Lib.hasPrefix, parW, List.isPrefixOf]), if_neg (by simp [Lib.hasPrefix, List.isPrefixOf]), if_pos (by simp [Lib.hasPrefix, List.isPrefixOf]), show Lib.trimPrefix (45 :: 32 :: wrE t.data.toList) [45] = 32 :: wrE t.data.toList by simp [Lib.trimPrefix, Lib.hasPrefix, List.isPrefixOf]]
      exact e3 false
  rw [e2, e4]
theorem lines_ed {P : List Sec} {loc par : ByteArray} {r : List UInt8} : ∀ (es ed : List (Bool × ByteArray)) (n : Nat), (∀ e ∈ es, entF e.2.data.toList = none) → nEd (P ++ [⟨loc, par, ed⟩]) + es.length ≤ 20000 → ∃ n', parA (P ++ [⟨loc, par, ed⟩]) n (es.flatMap wrX ++ r) = parA (P ++ [⟨loc, par, ed ++ es⟩]) n' r
  | [], ed, n, _, _ => ⟨n, by simp⟩
  | e :: es, ed, n, h, hn => by
    rw [List.length_cons] at hn
    have h1 : nEd (P ++ [⟨loc, par, ed ++ [e]⟩]) = nEd (P ++ [⟨loc, par, ed⟩]) + 1 := by rw [nEd_snoc, nEd_snoc]; simp; omega
    obtain ⟨n', h2⟩ := lines_ed (P := P) (loc := loc) (par := par) (r := r) es (ed ++ [e]) (n + 1) (fun x hx => h x (.tail _ hx)) (by omega)
    refine ⟨n', ?_⟩
    rw [List.flatMap_cons, List.append_assoc, line_ed (s := ⟨loc, par, ed⟩) (h e (.head _)) (by omega), h2, List.append_assoc]
    rfl
theorem inv_front {P L : List Sec} (h : Inv (P ++ L)) : Inv P := by
  have h1 : nEd (P ++ L) = nEd P + nEd L := by unfold nEd; rw [List.map_append, List.sum_append]
  have h2 := h.ned
  have h3 := h.len
  rw [List.length_append] at h3
  exact ⟨by omega, by omega, fun s hs => h.ok s (List.mem_append.2 (.inl hs)), (List.pairwise_append.1 h.pw).1⟩
theorem data_nil {s : ByteArray} (h : s.data.toList = []) : s = ⟨#[]⟩ := by
  have h1 : s = strOf s.data.toList := rfl
  rw [h1, h]
  rfl
theorem line_sec {P : List Sec} {s : Sec} {n : Nat} {r : List UInt8} (h : Inv (P ++ [s])) : ∃ n', parA P n (secB s ++ r) = parA (P ++ [s]) n' r := by
  have hg := h.ok s (by simp)
  have hl := h.len
  rw [List.length_append, List.length_singleton] at hl
  have hd : ∀ x ∈ P, x.loc ≠ s.loc := fun x hx => (List.pairwise_append.1 h.pw).2.2 x hx s (by simp)
  have hn := h.ned
  have h0 : nEd (P ++ [⟨s.loc, s.par, []⟩]) + s.ed.length = nEd (P ++ [s]) := by rw [nEd_snoc, nEd_snoc]; simp
  obtain ⟨loc, par, ed⟩ := s
  simp only at hg hd h0
  by_cases hp : par.data.toList = []
  · have hp2 := data_nil hp
    subst hp2
    obtain ⟨n', h2⟩ := lines_ed (P := P) (loc := loc) (par := ⟨#[]⟩) (r := r) ed [] (n + 1) hg.ent (by omega)
    refine ⟨n', ?_⟩
    have e0 : secB ⟨loc, ⟨#[]⟩, ed⟩ = [91] ++ loc.data.toList ++ [93, 10] ++ ed.flatMap wrX := by simp [secB]
    rw [e0, List.append_assoc, line_head hg.loc (by omega) hd, h2]
    rfl
  · have hpt : isTagB par = true := hg.par.resolve_left (fun e => hp (by have e2 : par = ⟨#[]⟩ := e; rw [e2]))
    have hr : loc ≠ rootS := fun e => hp (by have e2 : par = ⟨#[]⟩ := hg.root e; rw [e2])
    obtain ⟨n', h2⟩ := lines_ed (P := P) (loc := loc) (par := par) (r := r) ed [] (n + 1 + 1) hg.ent (by omega)
    refine ⟨n', ?_⟩
    have e0 : secB ⟨loc, par, ed⟩ = [91] ++ loc.data.toList ++ [93, 10] ++ ([112, 97, 114, 101, 110, 116, 32] ++ par.data.toList ++ [10]) ++ ed.flatMap wrX := by unfold secB; simp only; rw [if_neg hp]
    rw [e0, List.append_assoc, List.append_assoc, line_head hg.loc (by omega) hd, line_par hpt hr, h2]
    rfl
theorem lines_file : ∀ (L P : List Sec) (n : Nat), Inv (P ++ L) → ∃ n', parA P n (prB L) = parA (P ++ L) n' []
  | [], P, n, _ => ⟨n, by simp [prB]⟩
  | s :: L, P, n, h => by
    have e : P ++ s :: L = (P ++ [s]) ++ L := by simp
    rw [e] at h
    obtain ⟨n1, h1⟩ := line_sec (n := n) (r := prB L) (inv_front h)
    obtain ⟨n2, h2⟩ := lines_file L (P ++ [s]) n1 h
    refine ⟨n2, ?_⟩
    rw [e, ← h2, ← h1]
    rfl
/-- What is written is read as it was. -/
theorem prs_prB {L : List Sec} (h : Inv L) : prsL (prB L) = .ok L := by
  obtain ⟨n, h1⟩ := lines_file L [] 0 (by simpa using h)
  unfold prsL
  rw [h1, parA_end]
  simp
end Go.Proofs.YtlfeiadgahdgoaaGreatDoor
namespace Go.Proofs.YtlfeiadgahdgoaaGreatDoor
open Go.RowKit Go.Shelf Go.Lib
theorem cellsU_pt (us : List (Int × Nat × Nat)) : ∀ (k : Nat) (h : k < us.length), (cellsU us)[k * 3]? = some (.int .i64 us[k].1) := by
  induction us with
  | nil => intro k h; simp at h
  | cons u l ih =>
    intro k h
    have e : cellsU (u :: l) = .int .i64 u.1 :: .int .i64 (u.2.1 : Int) :: .int .i64 (u.2.2 : Int) :: cellsU l := rfl
    cases k with
    | zero => rw [e]; simp
    | succ k =>
      have := ih k (by simpa using h)
      rw [e, show (k + 1) * 3 = k * 3 + 1 + 1 + 1 by omega]
      simpa using this
set_option maxRecDepth 10000 in
set_option maxHeartbeats 800000 in
theorem good_ok (s : ByteArray) (hs : s.size ≤ 4194400) (h : entF s.data.toList = none) (w : World) (hQ : SeqAt w) : Calls Tryz.prog 12 #[.string s] w fun e w' => e = .returned (.bool true) ∧ Below w.heap.size w w' := by
  have hg := entG_of h
  have HS := hid0 (usplit_as s s.data.toList rfl hs w hQ)
  have HG2 : Hid (∀ k (h : k < (unitsOf s.data.toList).length), (unitsOf s.data.toList)[k].1 ≠ -1) := hid0 (fun k h => hg.bad _ (List.getElem_mem h))
  have h1 := hg.pos
  have h2 := hg.few
  clear hg h
  generalize unitsOf s.data.toList = us at *
  go_enter Tryz.func12, Tryz.ntmps12
  go_wp2_with (go_at_call 26; refine HS.out.mono ?_; rintro e w1 ⟨g, cap, rfl, ho, hcap, hgl, hge, hb⟩; have HO := hid0 ho; have HB := hid0 hb; clear ho hb)
  go_loopw [4] (fun i wr => ∃ k : Nat, k ≤ us.length ∧ i = .int .i64 (k : Int) ∧ wr = w1) (fun i _ => us.length - (intOf i).toNat)
  case atStart => exact ⟨0, Nat.zero_le _, rfl, rfl⟩
  case round =>
    obtain ⟨k, hk, rfl, rfl⟩ := hrel
    by_cases hlt : k < us.length
    · have hkI : (k : Int) < (us.length : Int) := by omega
      have hk0 : (0 : Int) ≤ (k : Int) := by omega
      have c0 : wr.cell? ⟨g, k * 3, none⟩ = some (.int .i64 us[k].1) := by
        rw [World.ownsRow.cellAt HO.out _ (by omega)]
        exact cellsU_pt us k hlt
      have hne : (us[k].1 == -1) = false := by simpa using HG2.out k hlt
      generalize us[k].1 = p at *
      go_wp2
      go_roundw
      case rel => exact ⟨k + 1, by omega, by go_num, trivial⟩
      case measure => simp [intOf]; omega
    · have hkI : ¬ (k : Int) < (us.length : Int) := by omega
      have q1 : (1 : Int) ≤ (us.length : Int) := by omega
      have q2 : (us.length : Int) ≤ 32 := by omega
      have d1 : decide ((1 : Int) ≤ (us.length : Int)) = true := decide_eq_true q1
      have d2 : decide ((us.length : Int) ≤ 32) = true := decide_eq_true q2
      go_wp2
      go_ret
      exact ⟨rfl, HB.out⟩
end Go.Proofs.YtlfeiadgahdgoaaGreatDoor
namespace Go.Proofs.YtlfeiadgahdgoaaGreatDoor
open Go.RowKit Go.Shelf Go.Lib
theorem str_ne {a b : ByteArray} (h : ¬ a = b) : (a.toList == b.toList) = false := by rw [str_eq]; exact decide_eq_false h
theorem ent_short {l : List UInt8} (h : entF l = none) : l.length ≤ 128 := by
  have hg := entG_of h
  have he := enc_units l l.length 0 (by omega) (Nat.zero_le _) hg.bad
  have h1 := encAll_len ((unitsAt l 0).map (·.1))
  have h2 := hg.few
  have h3 : (unitsAt l 0).length = (unitsOf l).length := rfl
  rw [he] at h1
  simp at h1
  omega
set_option maxRecDepth 20000 in
set_option maxHeartbeats 3200000 in
theorem holds_err (t : ByteArray) (w : World) (HBg : Hid (Calls Tryz.prog 7 #[] w fun e w' => e = .returned (.bool true) ∧ Below w.heap.size w w'))
    (HP : Hid (∀ W, Below w.heap.size w W → Calls Tryz.prog 9 #[.string t] W fun e w' => (∃ (n : Int) (ty : TypeId) (p : Value), e = .returned (.tuple #[.agg #[.slice none 0 0], .int .i64 n, .iface ty p])) ∧ Below W.heap.size W w')) :
    Calls Tryz.prog 5 #[.string t] w fun e w' => e = .returned (.bool true) ∧ Below w.heap.size w w' := by
  go_enter Tryz.func5, Tryz.ntmps5
  go_wp2_with (first
    | (go_at_call 7; refine HBg.out.mono ?_; rintro e w1 ⟨rfl, hb1⟩; have HB1 := hid0 hb1; clear hb1)
    | (go_at_call 9; refine (HP.out _ HB1.out).mono ?_; rintro e w2 ⟨⟨n, ty, p, rfl⟩, hb2⟩; have HB2 := hid0 (Below.later HB1.out hb2); clear hb2)
    | fail)
  go_ret
  exact ⟨rfl, HB2.out.alloc HB2.out.size _⟩
set_option maxRecDepth 20000 in
set_option maxHeartbeats 6400000 in
theorem holds_ok (t : ByteArray) (S : List Sec) (hI : Inv S) (w : World) (HQ : Hid (∀ W, Below w.heap.size w W → SeqAt W)) (HBg : Hid (Calls Tryz.prog 7 #[] w fun e w' => e = .returned (.bool true) ∧ Below w.heap.size w w'))
    (HP : Hid (∀ W, Below w.heap.size w W → Calls Tryz.prog 9 #[.string t] W fun e w' => (∃ a c, e = .returned (.tuple #[.agg #[.slice a S.length c], .int .i64 0, .nilIface]) ∧ XA w' a S) ∧ Below W.heap.size W w')) :
    Calls Tryz.prog 5 #[.string t] w fun e w' => e = .returned (.bool true) ∧ Below w.heap.size w w' := by
  have hlen := hI.len
  have hned := hI.ned
  have HI := hid0 hI
  have HGd : Hid (∀ (x : ByteArray) W, entF x.data.toList = none → Below w.heap.size w W → Calls Tryz.prog 12 #[.string x] W fun e w' => e = .returned (.bool true) ∧ Below W.heap.size W w') := hid0 (fun x W hx hW => good_ok x (by have := ent_short hx; rw [bsize] at this; omega) hx W (HQ.out W hW))
  have HN : Hid (∀ k, k ≤ S.length → nEd (S.take k) ≤ nEd S) := hid0 (fun k _ => by
    have h : nEd S = nEd (S.take k) + nEd (S.drop k) := by
      have e := List.take_append_drop k S
      have h2 : nEd (S.take k ++ S.drop k) = nEd (S.take k) + nEd (S.drop k) := by unfold nEd; rw [List.map_append, List.sum_append]
      rwa [e] at h2
    omega)
  have HN1 : Hid (∀ k (h : k < S.length), nEd (S.take (k + 1)) = nEd (S.take k) + S[k].ed.length) := hid0 (fun k h => nEd_more S k h)
  have HNe : Hid (nEd (S.take S.length) = nEd S) := hid0 (by rw [List.take_length])
  clear hI HQ
  go_enter Tryz.func5, Tryz.ntmps5
  go_wp2_with (first
    | (go_at_call 7; refine HBg.out.mono ?_; rintro e w1 ⟨rfl, hb1⟩; have HB1 := hid0 hb1; clear hb1)
    | (go_at_call 9; refine (HP.out _ HB1.out).mono ?_; rintro e w2 ⟨⟨a, c, rfl, hx⟩, hb2⟩; have HX2 := hid0 hx; have HB2 := hid0 (Below.later HB1.out hb2); clear hx hb2)
    | fail)
  obtain ⟨w3, hw3⟩ : ∃ w3, w3 = w2.alloc (.cells #[.slice a S.length c] 24) := ⟨_, rfl⟩
  have hB3 : Below w2.heap.size w2 w3 := by rw [hw3]; exact (Below.refl _ _).alloc (Nat.le_refl _) _
  have hr3 : w3.heap[w2.heap.size]? = some (.cells #[.slice a S.length c] 24 (0, 0)) := by rw [hw3]; exact heap_alloc_new w2 _
  have hs3 : w3.heap.size = w2.heap.size + 1 := by rw [hw3]; simp
  have HX3 := hid0 (HX2.out.later hB3)
  have HB3 := hid0 (Below.later HB2.out hB3)
  have HC3 : Hid (∀ W, Below w3.heap.size w3 W → W.cell? ⟨w2.heap.size, 0, none⟩ = some (.slice a S.length c)) := hid0 (fun W hW => by rw [cell_of_row _ _ _ _ _ _ ((hW.block w2.heap.size (by omega)).trans hr3)]; rfl)
  rw [← hw3]
  clear hw3 hB3 hr3 HX2 HB2 HP HBg HB1
  generalize w2.heap.size = X at *
  go_loopw [6, 7] (fun ed i wr => ∃ k : Nat, k ≤ S.length ∧ i = .int .i64 (k : Int) ∧ ed = .int .i64 ((nEd (S.take k) : Nat) : Int) ∧ Hid (Below w3.heap.size w3 wr)) (fun _ i _ => S.length - (intOf i).toNat)
  case atStart => exact ⟨0, Nat.zero_le _, rfl, rfl, hid0 (Below.refl _ _)⟩
  case round =>
    obtain ⟨k, hk, rfl, rfl, HB⟩ := hrel
    obtain ⟨wo, hwo⟩ : ∃ wo, wo = wr := ⟨_, rfl⟩
    subst hwo
    have x0 := HC3.out wo HB.out
    have hnk := HN.out k hk
    by_cases hlt : k < S.length
    · have hkI : (k : Int) < (S.length : Int) := by omega
      have hk0 : (0 : Int) ≤ (k : Int) := by omega
      obtain ⟨b, off, ae, ce, rfl, hbl, c0, c1, c2, hed⟩ := (HX3.out.later HB.out).at' k hlt
      have hn1 := HN1.out k hlt
      have hnk1 := HN.out (k + 1) (by omega)
      have hg := HI.out.ok S[k] (List.getElem_mem hlt)
      have HEA := hid0 hed
      have HEn : Hid (∀ e ∈ S[k].ed, entF e.2.data.toList = none) := hid0 hg.ent
      have HLoc : Hid (∀ j (h : j < S.length), j < k → ¬ S[j].loc = S[k].loc) := hid0 (fun j h hj => List.pairwise_iff_getElem.1 HI.out.pw j k h hlt hj)
      have hl2 := tag_two hg.loc
      have hp2 : S[k].par.size ≤ 64 := by
        rcases hg.par with e | e
        · rw [e]; decide
        · exact (tag_two e).2
      have hrt := hg.root
      have b1 := beq_root S[k].loc
      have b2 := beq_nil S[k].par
      have HNx : Hid (((nEd (S.take k) : Nat) : Int) + (S[k].ed.length : Int) = ((nEd (S.take (k + 1)) : Nat) : Int)) := hid0 (by omega)
      have hel : S[k].ed.length ≤ 20000 := by omega
      generalize S[k].loc = lc at *
      generalize S[k].par = pr at *
      generalize S[k].ed = ed at *
      generalize nEd (S.take k) = ne at *
      clear hg hed
      obtain ⟨w4, hw4⟩ : ∃ w4, w4 = wo.alloc (.cells #[.string lc, .string pr, .slice ae ed.length ce] 38) := ⟨_, rfl⟩
      have hB4 : Below wo.heap.size wo w4 := by rw [hw4]; exact (Below.refl _ _).alloc (Nat.le_refl _) _
      have hr4 : w4.heap[wo.heap.size]? = some (.cells #[.string lc, .string pr, .slice ae ed.length ce] 38 (0, 0)) := by rw [hw4]; exact heap_alloc_new wo _
      have hs4 : w4.heap.size = wo.heap.size + 1 := by rw [hw4]; simp
      have HB4 := hid0 (Below.later HB.out hB4)
      have HSc : Hid (∀ W, Below w4.heap.size w4 W → W.cell? ⟨wo.heap.size, 0, none⟩ = some (.string lc) ∧ W.cell? ⟨wo.heap.size, 1, none⟩ = some (.string pr) ∧ W.cell? ⟨wo.heap.size, 2, none⟩ = some (.slice ae ed.length ce) ∧ W.cell? ⟨X, 0, none⟩ = some (.slice (some ⟨b, off, none⟩) S.length c)) := hid0 (fun W hW => by
        have hr := (hW.block wo.heap.size (by omega)).trans hr4
        exact ⟨by rw [cell_of_row _ _ _ _ _ _ hr]; rfl, by rw [cell_of_row _ _ _ _ _ _ hr]; rfl, by rw [cell_of_row _ _ _ _ _ _ hr]; rfl, HC3.out W (Below.later HB4.out hW)⟩)
      have HEA4 := hid0 (HEA.out.later hB4)
      have HF4 := hid0 hw4.symm
      have HXW : Hid (∀ W, Below w4.heap.size w4 W → ∀ j (h : j < S.length), W.cell? ⟨b, off + j * 3, none⟩ = some (.string S[j].loc)) := hid0 (fun W hW j h => by
        obtain ⟨b2, off2, ae2, ce2, e2, _, d0, _⟩ := (HX3.out.later (Below.later HB4.out hW)).at' j h
        injection e2 with e2
        injection e2 with e3 e4
        subst e3 e4
        exact d0)
      have HBW : Hid (∀ W, Below w4.heap.size w4 W → Below w.heap.size w W) := hid0 (fun W hW => Below.later HB3.out (Below.later HB4.out hW))
      clear hw4 hB4 hr4 hs4 HEA
      go_wp2
      rw [HF4.out]
      clear HF4 c0 c1 c2 x0 hbl
      generalize wo.heap.size = Y at *
      go_loopw [9] (fun j wr => ∃ jj : Nat, jj ≤ k ∧ j = .int .i64 (jj : Int) ∧ Hid (Below w4.heap.size w4 wr)) (fun j _ => k - (intOf j).toNat)
      case atStart => exact ⟨0, Nat.zero_le _, rfl, hid0 (Below.refl _ _)⟩
      case round =>
        obtain ⟨jj, hjk, rfl, HBj⟩ := hrel
        obtain ⟨wj, hwj⟩ : ∃ wj, wj = wr := ⟨_, rfl⟩
        subst hwj
        obtain ⟨y0, y1, y2, y3⟩ := HSc.out wj HBj.out
        by_cases hj : jj < k
        · have hjI : (jj : Int) < (k : Int) := by omega
          have hjI0 : (0 : Int) ≤ (jj : Int) := by omega
          have hjS : (jj : Int) < (S.length : Int) := by omega
          have d0 := HXW.out wj HBj.out jj (by omega)
          have hne := str_ne (HLoc.out jj (by omega) hj)
          generalize S[jj].loc = lj at *
          go_wp2
          go_quiet ((fail))
          go_wp2
          go_roundw
          case rel => exact ⟨jj + 1, by omega, by go_num, hid0 (drewN_keeps HBj.out _)⟩
          case measure => simp [intOf]; omega
        · have hjI : ¬ (jj : Int) < (k : Int) := by omega
          have HEj := hid0 (HEA4.out.later HBj.out)
          go_wp2
          go_loopw [10] (fun m wr => ∃ mm : Nat, mm ≤ ed.length ∧ m = .int .i64 (mm : Int) ∧ Hid (Below wj.heap.size wj wr)) (fun m _ => ed.length - (intOf m).toNat)
          case atStart => exact ⟨0, Nat.zero_le _, rfl, hid0 (Below.refl _ _)⟩
          case round =>
            obtain ⟨mm, hmk, rfl, HBm⟩ := hrel
            have HBm2 := hid0 (Below.later HBj.out HBm.out)
            clear y0 y1 y2 y3
            obtain ⟨y0, y1, y2, y3⟩ := HSc.out wr HBm2.out
            by_cases hm : mm < ed.length
            · have hmI : (mm : Int) < (ed.length : Int) := by omega
              have hmI0 : (0 : Int) ≤ (mm : Int) := by omega
              obtain ⟨be, oe, rfl, _, _, d1⟩ := (HEj.out.later HBm.out).at' mm hm
              have HG := hid0 (HGd.out ed[mm].2 wr (HEn.out _ (List.getElem_mem hm)) (HBW.out wr HBm2.out))
              generalize ed[mm].2 = en at *
              go_wp2_with (go_at_call 12; refine HG.out.mono ?_; rintro e w6 ⟨rfl, hb6⟩; have HB6 := hid0 (Below.later HBm.out hb6); clear hb6)
              go_roundw
              case rel => exact ⟨mm + 1, by omega, by go_num, HB6⟩
              case measure => simp [intOf]; omega
            · have hmI : ¬ (mm : Int) < (ed.length : Int) := by omega
              have q1 : ¬ (lc.size : Int) < 2 := by omega
              have q2 : ¬ (64 : Int) < (lc.size : Int) := by omega
              have q3 : ¬ (64 : Int) < (pr.size : Int) := by omega
              have dq1 : decide ((lc.size : Int) < 2) = false := decide_eq_false q1
              have dq2 : decide ((64 : Int) < (lc.size : Int)) = false := decide_eq_false q2
              have dq3 : decide ((64 : Int) < (pr.size : Int)) = false := decide_eq_false q3
              have HEnd : Hid (Below w3.heap.size w3 wr) := hid0 (Below.later HB4.out HBm2.out)
              by_cases hroot : lc = ⟨#[114, 111, 111, 116]⟩
              · rw [decide_eq_true hroot] at b1
                rw [decide_eq_true (hrt hroot)] at b2
                clear hroot hrt
                go_wp2
                go_roundw
                case rel => exact ⟨k + 1, by omega, by go_num, by rw [HNx.out], HEnd⟩
                case measure => simp [intOf]; omega
              · rw [decide_eq_false hroot] at b1
                clear hroot hrt b2
                go_wp2
                go_roundw
                case rel => exact ⟨k + 1, by omega, by go_num, by rw [HNx.out], HEnd⟩
                case measure => simp [intOf]; omega
    · have hkI : ¬ (k : Int) < (S.length : Int) := by omega
      have hkn : nEd (S.take k) = nEd S := by rw [show k = S.length by omega]; exact HNe.out
      rw [hkn]
      have q1 : (S.length : Int) ≤ 500 := by omega
      have q2 : ((nEd S : Nat) : Int) ≤ 20000 := by omega
      have d1 : decide ((S.length : Int) ≤ 500) = true := decide_eq_true q1
      have d2 : decide (((nEd S : Nat) : Int) ≤ 20000) = true := decide_eq_true q2
      go_wp2
      go_ret
      exact ⟨rfl, Below.later HB3.out HB.out⟩
theorem bundleHolds_any (A : Nat → Addr) (t : ByteArray) (w : World) (hE : EnvP A w) : Calls Tryz.prog 5 #[.string t] w fun e w' => e = .returned (.bool true) ∧ Below w.heap.size w w' := by
  have HBg := hid0 (begun6_any A w hE)
  by_cases hl : 1048576 < t.size
  · exact holds_err t w HBg (hid0 (fun W hW => (parse_long A t hl W (hE.se.below hW).c2).mono (fun e w' h => ⟨⟨0, _, _, h.1⟩, h.2⟩)))
  · have et : t = strOf t.data.toList := rfl
    have hlen : t.data.toList.length ≤ 1048576 := by rw [bsize]; omega
    have HP : ∀ W, Below w.heap.size w W → Calls Tryz.prog 9 #[.string t] W fun e w' => GoPar A W w' (prsL t.data.toList) e ∧ Below W.heap.size W w' := fun W hW => by
      have hE2 := hE.below hW
      exact parse_any A t.data.toList hlen W hE2.mx hE2.sy hE2.sq hE2.se
    cases hp : prsL t.data.toList with
    | stop n i =>
      refine holds_err t w HBg (hid0 (fun W hW => (HP W hW).mono (fun e w' h => ?_)))
      rw [hp] at h
      exact ⟨⟨(n : Int), _, _, h.1⟩, h.2⟩
    | ok S =>
      refine holds_ok t S (inv_prs hp) w (hid0 (fun W hW => hE.sq.later hW)) HBg (hid0 (fun W hW => (HP W hW).mono (fun e w' h => ?_)))
      rw [hp] at h
      obtain ⟨⟨v, T, hT, hS, rfl⟩, hb⟩ := h
      obtain ⟨a, c, rfl, _⟩ := hS.form
      have hx := hS.xa
      rw [hT] at hx
      have hl2 : T.length = S.length := by rw [← secsO_length, hT]
      rw [hl2]
      exact ⟨⟨a, c, rfl, hx⟩, hb⟩
end Go.Proofs.YtlfeiadgahdgoaaGreatDoor
namespace Go.Proofs.YtlfeiadgahdgoaaGreatDoor
open Go.RowKit Go.Shelf Go.Lib
theorem below_drew6 {B : Nat} {w a : World} (h : Below B w a) (n : Nat) : Below B w (a.drewN n) := ⟨h.os, h.tape, h.output, h.size, h.block⟩
set_option maxRecDepth 10000 in
set_option maxHeartbeats 3200000 in
theorem sameBundle_any (L : List Sec) (a b : Option Addr) (ca cb : Nat) (w : World) (hl : L.length ≤ 1000000) (hb : ∀ s ∈ L, s.ed.length ≤ 1000000000) (ha : XA w a L) (hB : XA w b L) :
    Calls Tryz.prog 10 #[.agg #[.slice a L.length ca], .agg #[.slice b L.length cb]] w fun e w' => e = .returned (.bool true) ∧ Below w.heap.size w w' := by
  obtain ⟨w0, hw0⟩ : ∃ w0, w0 = (w.alloc (.cells #[.slice a L.length ca] 24)).alloc (.cells #[.slice b L.length cb] 24) := ⟨_, rfl⟩
  have hs0 : w0.heap.size = w.heap.size + 2 := by rw [hw0]; simp
  have hB0 : Below w.heap.size w w0 := by rw [hw0]; exact ((Below.refl _ _).alloc (Nat.le_refl _) _).alloc (by simp) _
  have hX0 : w0.heap[w.heap.size]? = some (.cells #[.slice a L.length ca] 24 (0, 0)) := by
    rw [hw0]
    exact (Below.heap_alloc _ _ _ (by simp)).trans (heap_alloc_new w _)
  have hX1 : w0.heap[w.heap.size + 1]? = some (.cells #[.slice b L.length cb] 24 (0, 0)) := by
    rw [hw0]
    have h := heap_alloc_new (w.alloc (.cells #[.slice a L.length ca] 24)) (.cells #[.slice b L.length cb] 24)
    rw [show (w.alloc (.cells #[.slice a L.length ca] 24)).heap.size = w.heap.size + 1 by simp] at h
    exact h
  have HX : Hid (∀ W, Below w0.heap.size w0 W → W.cell? ⟨w.heap.size, 0, none⟩ = some (.slice a L.length ca) ∧ W.cell? ⟨w.heap.size + 1, 0, none⟩ = some (.slice b L.length cb)) := hid0 (fun W hW => by
    have hr := (hW.block w.heap.size (by omega)).trans hX0
    have hq := (hW.block (w.heap.size + 1) (by omega)).trans hX1
    exact ⟨by rw [cell_of_row _ _ _ _ _ _ hr]; rfl, by rw [cell_of_row _ _ _ _ _ _ hq]; rfl⟩)
  have HXA : Hid (∀ W, Below w0.heap.size w0 W → XA W a L ∧ XA W b L) := hid0 (fun W hW => ⟨(ha.later hB0).later hW, (hB.later hB0).later hW⟩)
  have HBD := hid0 hb
  have HB0 := hid0 hB0
  obtain ⟨x0, x1⟩ := HX.out w0 (Below.refl _ _)
  have hfold := hw0.symm
  clear hw0 hs0 hB0 hX0 hX1 ha hB hb
  go_enter Tryz.func10, Tryz.ntmps10
  go_wp2
  clear x0 x1 hfold
  go_loopw [5] (fun i wr => ∃ k : Nat, k ≤ L.length ∧ i = .int .i64 (k : Int) ∧ Hid (Below w0.heap.size w0 wr)) (fun i _ => L.length - (intOf i).toNat)
  case atStart => exact ⟨0, Nat.zero_le _, rfl, hid0 (Below.refl _ _)⟩
  case round =>
    obtain ⟨k, hk, rfl, HB⟩ := hrel
    obtain ⟨wo, hwo⟩ : ∃ wo, wo = wr := ⟨_, rfl⟩
    subst hwo
    obtain ⟨x0, x1⟩ := HX.out wo HB.out
    by_cases hlt : k < L.length
    · have hkI : (k : Int) < (L.length : Int) := by omega
      have hkI0 : (0 : Int) ≤ (k : Int) := by omega
      obtain ⟨b1, o1, ae, ce, rfl, hb1, c0, c1, c2, hea⟩ := (HXA.out wo HB.out).1.at' k hlt
      obtain ⟨b2, o2, be, de, rfl, hb2, d0, d1, d2, heb⟩ := (HXA.out wo HB.out).2.at' k hlt
      have hed := HBD.out L[k] (List.getElem_mem hlt)
      generalize L[k] = sc at *
      obtain ⟨lo, pa, ed⟩ := sc
      simp only at c0 c1 c2 d0 d1 d2 hea heb hed
      obtain ⟨w1, hw1⟩ : ∃ w1, w1 = wo.alloc (.cells #[.string lo, .string pa, .slice ae ed.length ce] 38) := ⟨_, rfl⟩
      have hbw1 : Below wo.heap.size wo w1 := by rw [hw1]; exact (Below.refl _ _).alloc (Nat.le_refl _) _
      have hs1 : w1.heap.size = wo.heap.size + 1 := by rw [hw1]; simp
      have hr1 : w1.heap[wo.heap.size]? = some (.cells #[.string lo, .string pa, .slice ae ed.length ce] 38 (0, 0)) := by rw [hw1]; exact heap_alloc_new wo _
      obtain ⟨w2, hw2⟩ : ∃ w2, w2 = w1.alloc (.cells #[.string lo, .string pa, .slice be ed.length de] 38) := ⟨_, rfl⟩
      have hbw2 : Below w1.heap.size w1 w2 := by rw [hw2]; exact (Below.refl _ _).alloc (Nat.le_refl _) _
      have hr2 : w2.heap[wo.heap.size + 1]? = some (.cells #[.string lo, .string pa, .slice be ed.length de] 38 (0, 0)) := by rw [hw2, ← hs1]; exact heap_alloc_new w1 _
      have hr12 : w2.heap[wo.heap.size]? = some (.cells #[.string lo, .string pa, .slice ae ed.length ce] 38 (0, 0)) := (hbw2.block _ (by omega)).trans hr1
      obtain ⟨y0, y1⟩ := HX.out w1 (Below.later HB.out hbw1)
      have e0 := (hbw1.cell (p := ⟨b2, o2 + k * 3, none⟩) hb2).trans d0
      have e1 := (hbw1.cell (p := ⟨b2, o2 + k * 3 + 1, none⟩) hb2).trans d1
      have e2 := (hbw1.cell (p := ⟨b2, o2 + k * 3 + 2, none⟩) hb2).trans d2
      obtain ⟨p0, p1, p2, p3⟩ := sec_cells hr12
      obtain ⟨q0, q1, q2, q3⟩ := sec_cells hr2
      have HE1 := hid0 ((hea.later hbw1).later hbw2)
      have HE2 := hid0 ((heb.later hbw1).later hbw2)
      have HB2 := hid0 (Below.later (Below.later HB.out hbw1) hbw2)
      have r0 : (lo.toList == lo.toList) = true := by simp
      have r1 : (pa.toList == pa.toList) = true := by simp
      have hf1 := hw1.symm
      have hf2 := hw2.symm
      clear hw1 hw2 hbw1 hbw2 hr1 hr2 hr12 hea heb hb1 hb2
      go_wp2
      clear c0 c1 c2 d0 d1 d2 e0 e1 e2 x0 x1 y0 y1 hf1 hf2
      go_loopw [8] (fun i wi => ∃ j q : Nat, j ≤ ed.length ∧ i = .int .i64 (j : Int) ∧ wi = w2.drewN q) (fun i _ => ed.length - (intOf i).toNat)
      case atStart => exact ⟨0, 0, Nat.zero_le _, rfl, rfl⟩
      case round =>
        obtain ⟨j, q, hj, rfl, rfl⟩ := hrel
        by_cases hjl : j < ed.length
        · obtain ⟨g1, f1, rfl, _, u0, u1⟩ := HE1.out.at' j hjl
          obtain ⟨g2, f2, rfl, _, v0, v1⟩ := HE2.out.at' j hjl
          have hjI : (j : Int) < (ed.length : Int) := by omega
          have hjI0 : (0 : Int) ≤ (j : Int) := by omega
          generalize ed[j] = u at *
          go_wp2
          go_quiet ((fail))
          go_wp2
          go_roundw
          case rel => exact ⟨j + 1, _, hjl, by go_num, rfl⟩
          case measure => simp [intOf]; omega
        · have hjI : ¬ (j : Int) < (ed.length : Int) := by omega
          have HBN := hid0 (below_drew6 HB2.out q)
          go_wp2
          go_roundw
          case rel => exact ⟨k + 1, by omega, by go_num, HBN⟩
          case measure => simp [intOf]; omega
    · have hkI : ¬ (k : Int) < (L.length : Int) := by omega
      have HBN := hid0 (Below.later HB0.out HB.out)
      go_wp2
      go_ret
      exact ⟨rfl, HBN.out⟩
end Go.Proofs.YtlfeiadgahdgoaaGreatDoor
namespace Go.Proofs.YtlfeiadgahdgoaaGreatDoor
open Go.RowKit Go.Shelf Go.Lib
theorem par_line : ∀ (f : Nat) (S : List Sec) (n m i : Nat) (l : List UInt8), parF f S n l = .stop m i → n + 1 ≤ m ∧ m ≤ n + l.length
  | 0, S, n, m, i, l, h => by rw [parF] at h; cases h
  | f + 1, S, n, m, i, l, h => by
    rw [parF] at h
    cases hs : lineS S (lineB (cutN l)) with
    | stop j =>
      rw [hs] at h
      simp only at h
      injection h with h _
      have hl : l ≠ [] := fun e => by
        subst e
        have e1 : lineB (cutN []) = [] := by decide
        rw [e1] at hs
        unfold lineS at hs
        rw [if_pos rfl] at hs
        cases hs
      have := List.length_pos_iff.2 hl
      omega
    | go S' =>
      rw [hs] at h
      simp only at h
      split at h
      · rename_i hc
        have h1 := par_line f S' (n + 1) m i _ h
        have h2 := cut_short hc
        omega
      · cases h
theorem prs_line {l : List UInt8} {m i : Nat} (h : prsL l = .stop m i) : 1 ≤ m ∧ m ≤ l.length := by
  have := par_line _ [] 0 m i l h
  omega
set_option maxRecDepth 20000 in
set_option maxHeartbeats 3200000 in
theorem again_err (t : ByteArray) (n : Nat) (hn : n ≤ t.size) (hb : decide ((1048576 : Int) < (t.size : Int)) = ((n : Int) == 0)) (w : World) (ty : TypeId) (p : Value) (HBg : Hid (Calls Tryz.prog 7 #[] w fun e w' => e = .returned (.bool true) ∧ Below w.heap.size w w'))
    (HP : Hid (∀ W, Below w.heap.size w W → Calls Tryz.prog 9 #[.string t] W fun e w' => e = .returned (.tuple #[.agg #[.slice none 0 0], .int .i64 (n : Int), .iface ty p]) ∧ Below W.heap.size W w')) :
    Calls Tryz.prog 4 #[.string t] w fun e w' => e = .returned (.bool true) ∧ Below w.heap.size w w' := by
  have q1 : (0 : Int) ≤ (n : Int) := by omega
  have q2 : (n : Int) ≤ (t.size : Int) := by omega
  have d1 : decide ((0 : Int) ≤ (n : Int)) = true := decide_eq_true q1
  have d2 : decide ((n : Int) ≤ (t.size : Int)) = true := decide_eq_true q2
  cases hc : ((n : Int) == 0) with
  | true =>
    rw [hc] at hb
    go_enter Tryz.func4, Tryz.ntmps4
    go_wp2_with (first
      | (go_at_call 7; refine HBg.out.mono ?_; rintro e w1 ⟨rfl, hb1⟩; have HB1 := hid0 hb1; clear hb1)
      | (go_at_call 9; refine (HP.out _ HB1.out).mono ?_; rintro e w2 ⟨rfl, hb2⟩; have HB2 := hid0 (Below.later HB1.out hb2); clear hb2)
      | fail)
    go_ret
    exact ⟨rfl, HB2.out.alloc HB2.out.size _⟩
  | false =>
    rw [hc] at hb
    go_enter Tryz.func4, Tryz.ntmps4
    go_wp2_with (first
      | (go_at_call 7; refine HBg.out.mono ?_; rintro e w1 ⟨rfl, hb1⟩; have HB1 := hid0 hb1; clear hb1)
      | (go_at_call 9; refine (HP.out _ HB1.out).mono ?_; rintro e w2 ⟨rfl, hb2⟩; have HB2 := hid0 (Below.later HB1.out hb2); clear hb2)
      | fail)
    go_ret
    exact ⟨rfl, HB2.out.alloc HB2.out.size _⟩
set_option maxRecDepth 20000 in
set_option maxHeartbeats 3200000 in
theorem again_ok (A : Nat → Addr) (t : ByteArray) (S : List Sec) (hI : Inv S) (w : World) (hE : EnvP A w) (HBg : Hid (Calls Tryz.prog 7 #[] w fun e w' => e = .returned (.bool true) ∧ Below w.heap.size w w'))
    (HP : Hid (∀ W, Below w.heap.size w W → Calls Tryz.prog 9 #[.string t] W fun e w' => (∃ a c, S.length ≤ c ∧ e = .returned (.tuple #[.agg #[.slice a S.length c], .int .i64 0, .nilIface]) ∧ XA w' a S) ∧ Below W.heap.size W w')) :
    Calls Tryz.prog 4 #[.string t] w fun e w' => e = .returned (.bool true) ∧ Below w.heap.size w w' := by
  have hel : ∀ s ∈ S, s.ed.length ≤ 20000 := fun s hs => by
    obtain ⟨k, hk, rfl⟩ := List.getElem_of_mem hs
    have h1 := nEd_more S k hk
    have h2 : nEd S = nEd (S.take (k + 1)) + nEd (S.drop (k + 1)) := by
      have e := List.take_append_drop (k + 1) S
      have h3 : nEd (S.take (k + 1) ++ S.drop (k + 1)) = nEd (S.take (k + 1)) + nEd (S.drop (k + 1)) := by unfold nEd; rw [List.map_append, List.sum_append]
      rwa [e] at h3
    have := hI.ned
    omega
  have hen : ∀ s ∈ S, ∀ e ∈ s.ed, e.2.size ≤ 128 := fun s hs e he => by
    have := ent_short ((hI.ok s hs).ent e he)
    rw [bsize] at this
    exact this
  have hchk := inv_chk hI
  have HCk : Hid (∀ W a c, S.length ≤ c → Below w.heap.size w W → XA W a S → Calls Tryz.prog 11 #[.agg #[.slice a S.length c]] W fun e w' => e = .returned .nilIface ∧ Below W.heap.size W w') := hid0 (fun W a c hc hW hx => by
    have hE2 := hE.below hW
    have h := check_any entE A S a c W hc (fun s hs => Nat.le_trans (hel s hs) (by decide)) hE2.mx hE2.se hx (fun s hs e he => Nat.le_trans (hen s hs e he) (by decide)) (fun x W' hx' hW' => entry_any A x W' hx' (hE2.sq.later hW') (hE2.se.below hW'))
    rw [hchk] at h
    exact h)
  have HPr : Hid (∀ W a c, S.length ≤ c → Below w.heap.size w W → XA W a S → Calls Tryz.prog 8 #[.agg #[.slice a S.length c]] W fun e w' => e = .returned (.tuple #[.string (strOf (prtF S).2), errO A (prtF S).1]) ∧ Below W.heap.size W w') := hid0 (fun W a c hc hW hx => by
    have hE2 := hE.below hW
    exact print_any A S a c W hc (fun s hs => Nat.le_trans (hel s hs) (by decide)) (fun s hs e he => Nat.le_trans (hen s hs e he) (by decide)) hE2.mx hE2.sq hE2.dt hE2.se hx)
  have HP2 : Hid (∀ W, Below w.heap.size w W → (prB S).length ≤ 1048576 → Calls Tryz.prog 9 #[.string (strOf (prB S))] W fun e w' => (∃ a c, e = .returned (.tuple #[.agg #[.slice a S.length c], .int .i64 0, .nilIface]) ∧ XA w' a S) ∧ Below W.heap.size W w') := hid0 (fun W hW hl => by
    have hE2 := hE.below hW
    refine (parse_any A (prB S) hl W hE2.mx hE2.sy hE2.sq hE2.se).mono (fun e w' h => ?_)
    rw [prs_prB hI] at h
    obtain ⟨⟨v, T, hT, hS, rfl⟩, hb⟩ := h
    obtain ⟨a, c, rfl, _⟩ := hS.form
    have hx := hS.xa
    rw [hT] at hx
    have hl2 : T.length = S.length := by rw [← secsO_length, hT]
    rw [hl2]
    exact ⟨⟨a, c, rfl, hx⟩, hb⟩)
  have HSm : Hid (∀ W a b ca cb, XA W a S → XA W b S → Calls Tryz.prog 10 #[.agg #[.slice a S.length ca], .agg #[.slice b S.length cb]] W fun e w' => e = .returned (.bool true) ∧ Below W.heap.size W w') := hid0 (fun W a b ca cb h1 h2 => sameBundle_any S a b ca cb W (by have := hI.len; omega) (fun s hs => Nat.le_trans (hel s hs) (by decide)) h1 h2)
  have HSe : Hid (∀ W, Below w.heap.size w W → Sents W A) := hid0 (fun W hW => hE.se.below hW)
  have hprt : prtF S = if 1048576 < (prB S).length then (some 2, []) else (none, prB S) := by unfold prtF; rw [hchk]
  have hlen := hI.len
  have M1 : Hid True := trivial
  clear hchk hE hel hen hI
  by_cases hlong : 1048576 < (prB S).length
  · rw [if_pos hlong] at hprt
    rw [hprt] at HPr
    simp only [errO] at HPr
    have e0 : strOf [] = (⟨#[]⟩ : ByteArray) := rfl
    rw [e0] at HPr
    clear hprt HP2 HSm hlong
    go_enter Tryz.func4, Tryz.ntmps4
    go_wp2_with (first
      | (go_at_call 7; refine HBg.out.mono ?_; rintro e w1 ⟨rfl, hb1⟩; have HB1 := hid0 hb1; clear hb1)
      | (go_at_call 9; refine (HP.out _ HB1.out).mono ?_; rintro e w2 ⟨⟨a, c, hc, rfl, hx⟩, hb2⟩; have HB2 := hid0 (Below.later HB1.out hb2); have HX2 := hid0 hx; have hB3 : Below w2.heap.size w2 (w2.alloc (.cells #[.slice a S.length c] 24)) := (Below.refl _ _).alloc (Nat.le_refl _) _; have HX3 := hid0 (hx.later hB3); have HB3 := hid0 (Below.later HB2.out hB3); have HR3 : Hid (∀ W, Below (w2.alloc (.cells #[.slice a S.length c] 24)).heap.size (w2.alloc (.cells #[.slice a S.length c] 24)) W → W.cell? ⟨w2.heap.size, 0, none⟩ = some (.slice a S.length c)) := hid0 (fun W hW => by rw [cell_of_row _ _ _ _ _ _ ((hW.block w2.heap.size (by simp)).trans (heap_alloc_new w2 _))]; rfl); clear hx hb2 hB3)
      | (go_at_call 11; refine (HCk.out _ _ _ hc HB3.out HX3.out).mono ?_; rintro e w4 ⟨rfl, hb4⟩; have r4 := HR3.out w4 hb4; have HB4 := hid0 (Below.later HB3.out hb4); have HX4 := hid0 (HX3.out.later hb4); clear hb4)
      | (go_at_call 8; refine (HPr.out _ _ _ hc HB4.out HX4.out).mono ?_; rintro e w5 ⟨rfl, hb5⟩; have HB5 := hid0 (Below.later HB4.out hb5); have s5 := (HSe.out _ HB5.out).c2; have s6 := (HSe.out _ HB5.out).eql 2 2 (by decide) (by decide); clear hb5)
      | fail)
    go_ret
    exact ⟨rfl, HB5.out⟩
  · rw [if_neg hlong] at hprt
    rw [hprt] at HPr
    simp only [errO] at HPr
    have HP3 := hid0 (fun W hW => HP2.out W hW (by omega))
    generalize strOf (prB S) = TX at *
    clear hprt hlong HP2 HSe
    go_enter Tryz.func4, Tryz.ntmps4
    go_wp2_with (first
      | (go_at_call 7; refine HBg.out.mono ?_; rintro e w1 ⟨rfl, hb1⟩; have HB1 := hid0 hb1; clear hb1)
      | (go_at_call 9; clear M1; refine (HP.out _ HB1.out).mono ?_; rintro e w2 ⟨⟨a, c, hc, rfl, hx⟩, hb2⟩; have HB2 := hid0 (Below.later HB1.out hb2); have HX2 := hid0 hx; have hB3 : Below w2.heap.size w2 (w2.alloc (.cells #[.slice a S.length c] 24)) := (Below.refl _ _).alloc (Nat.le_refl _) _; have HX3 := hid0 (hx.later hB3); have HB3 := hid0 (Below.later HB2.out hB3); have HR3 : Hid (∀ W, Below (w2.alloc (.cells #[.slice a S.length c] 24)).heap.size (w2.alloc (.cells #[.slice a S.length c] 24)) W → W.cell? ⟨w2.heap.size, 0, none⟩ = some (.slice a S.length c)) := hid0 (fun W hW => by rw [cell_of_row _ _ _ _ _ _ ((hW.block w2.heap.size (by simp)).trans (heap_alloc_new w2 _))]; rfl); clear hx hb2 hB3)
      | (go_at_call 11; refine (HCk.out _ _ _ hc HB3.out HX3.out).mono ?_; rintro e w4 ⟨rfl, hb4⟩; have r4 := HR3.out w4 hb4; have HB4 := hid0 (Below.later HB3.out hb4); have HX4 := hid0 (HX3.out.later hb4); have HB4a := hid0 hb4; clear hb4)
      | (go_at_call 8; refine (HPr.out _ _ _ hc HB4.out HX4.out).mono ?_; rintro e w5 ⟨rfl, hb5⟩; have HB5 := hid0 (Below.later HB4.out hb5); have HX5 := hid0 (HX4.out.later hb5); have HB5a := hid0 (Below.later HB4a.out hb5); clear hb5)
      | (go_at_call 9; refine (HP3.out _ HB5.out).mono ?_; rintro e w6 ⟨⟨a6, c6, rfl, hx6⟩, hb6⟩; have hB7 : Below w6.heap.size w6 (w6.alloc (.cells #[.slice a6 S.length c6] 24)) := (Below.refl _ _).alloc (Nat.le_refl _) _; have r7 := HR3.out _ (Below.later (Below.later HB5a.out hb6) hB7); have HX7 := hid0 ((HX5.out.later hb6).later hB7); have HY7 := hid0 (hx6.later hB7); have HB7 := hid0 (Below.later (Below.later HB5.out hb6) hB7); clear hx6 hb6 hB7)
      | (go_at_call 10; refine (HSm.out _ _ _ _ _ HX7.out HY7.out).mono ?_; rintro e w8 ⟨rfl, hb8⟩; have HB8 := hid0 (Below.later HB7.out hb8); clear hb8)
      | fail)
    go_ret
    exact ⟨rfl, HB8.out⟩
theorem bundleAgain_any (A : Nat → Addr) (t : ByteArray) (w : World) (hE : EnvP A w) : Calls Tryz.prog 4 #[.string t] w fun e w' => e = .returned (.bool true) ∧ Below w.heap.size w w' := by
  have HBg := hid0 (begun6_any A w hE)
  by_cases hl : 1048576 < t.size
  · exact again_err t 0 (Nat.zero_le _) (by rw [decide_eq_true (by omega)]; rfl) w _ _ HBg (hid0 (fun W hW => parse_long A t hl W (hE.se.below hW).c2))
  · have hlen : t.data.toList.length ≤ 1048576 := by rw [bsize]; omega
    have HP : ∀ W, Below w.heap.size w W → Calls Tryz.prog 9 #[.string t] W fun e w' => GoPar A W w' (prsL t.data.toList) e ∧ Below W.heap.size W w' := fun W hW => by
      have hE2 := hE.below hW
      exact parse_any A t.data.toList hlen W hE2.mx hE2.sy hE2.sq hE2.se
    cases hp : prsL t.data.toList with
    | stop n i =>
      have hn := prs_line hp
      rw [bsize] at hn
      refine again_err t n hn.2 (by rw [decide_eq_false (by omega)]; exact (beq_eq_false_iff_ne.2 (by omega)).symm) w 216 (.pointer (some (A i))) HBg (hid0 (fun W hW => (HP W hW).mono (fun e w' h => ?_)))
      rw [hp] at h
      exact h
    | ok S =>
      refine again_ok A t S (inv_prs hp) w hE HBg (hid0 (fun W hW => (HP W hW).mono (fun e w' h => ?_)))
      rw [hp] at h
      obtain ⟨⟨v, T, hT, hS, rfl⟩, hb⟩ := h
      obtain ⟨a, c, rfl, hc⟩ := hS.form
      have hx := hS.xa
      rw [hT] at hx
      have hl2 : T.length = S.length := by rw [← secsO_length, hT]
      rw [hl2] at hc ⊢
      exact ⟨⟨a, c, hc, rfl, hx⟩, hb⟩
end Go.Proofs.YtlfeiadgahdgoaaGreatDoor
namespace Go.Proofs.YtlfeiadgahdgoaaGreatDoor
open Go.RowKit Go.Shelf Go.Lib
set_option maxRecDepth 20000 in
set_option maxHeartbeats 3200000 in
theorem back_bad (n c : Nat) (a : Option Addr) (w : World) (ty : TypeId) (p : Value) (HBg : Hid (∀ W, Below w.heap.size w W → Calls Tryz.prog 7 #[] W fun e w' => e = .returned (.bool true) ∧ Below W.heap.size W w'))
    (HPr : Hid (∀ W, Below w.heap.size w W → Calls Tryz.prog 8 #[.agg #[.slice a n c]] W fun e w' => e = .returned (.tuple #[.string ⟨#[]⟩, .iface ty p]) ∧ Below W.heap.size W w')) :
    Calls Tryz.prog 3 #[.agg #[.slice a n c]] w fun e w' => e = .returned (.bool true) ∧ Below w.heap.size w w' := by
  have hB0 : Below w.heap.size w (w.alloc (.cells #[.slice a n c] 24)) := (Below.refl _ _).alloc (Nat.le_refl _) _
  have HB0 := hid0 hB0
  have HR0 : Hid (∀ W, Below (w.alloc (.cells #[.slice a n c] 24)).heap.size (w.alloc (.cells #[.slice a n c] 24)) W → W.cell? ⟨w.heap.size, 0, none⟩ = some (.slice a n c)) := hid0 (fun W hW => by rw [cell_of_row _ _ _ _ _ _ ((hW.block w.heap.size (by simp)).trans (heap_alloc_new w _))]; rfl)
  clear hB0
  go_enter Tryz.func3, Tryz.ntmps3
  go_wp2_with (first
    | (go_at_call 7; refine (HBg.out _ HB0.out).mono ?_; rintro e w1 ⟨rfl, hb1⟩; have r1 := HR0.out w1 hb1; have HB1 := hid0 (Below.later HB0.out hb1); clear hb1)
    | (go_at_call 8; refine (HPr.out _ HB1.out).mono ?_; rintro e w2 ⟨rfl, hb2⟩; have HB2 := hid0 (Below.later HB1.out hb2); clear hb2)
    | fail)
  go_ret
  exact ⟨rfl, HB2.out⟩
set_option maxRecDepth 20000 in
set_option maxHeartbeats 3200000 in
theorem back_ok (L : List Sec) (a : Option Addr) (c : Nat) (TX : ByteArray) (w : World) (ha : XA w a L) (hc : L.length ≤ c) (HBg : Hid (∀ W, Below w.heap.size w W → Calls Tryz.prog 7 #[] W fun e w' => e = .returned (.bool true) ∧ Below W.heap.size W w'))
    (HPr : Hid (∀ W a c, L.length ≤ c → Below w.heap.size w W → XA W a L → Calls Tryz.prog 8 #[.agg #[.slice a L.length c]] W fun e w' => e = .returned (.tuple #[.string TX, .nilIface]) ∧ Below W.heap.size W w'))
    (HPa : Hid (∀ W, Below w.heap.size w W → Calls Tryz.prog 9 #[.string TX] W fun e w' => (∃ a c, L.length ≤ c ∧ e = .returned (.tuple #[.agg #[.slice a L.length c], .int .i64 0, .nilIface]) ∧ XA w' a L) ∧ Below W.heap.size W w'))
    (HSm : Hid (∀ W a b ca cb, XA W a L → XA W b L → Calls Tryz.prog 10 #[.agg #[.slice a L.length ca], .agg #[.slice b L.length cb]] W fun e w' => e = .returned (.bool true) ∧ Below W.heap.size W w')) :
    Calls Tryz.prog 3 #[.agg #[.slice a L.length c]] w fun e w' => e = .returned (.bool true) ∧ Below w.heap.size w w' := by
  have hB0 : Below w.heap.size w (w.alloc (.cells #[.slice a L.length c] 24)) := (Below.refl _ _).alloc (Nat.le_refl _) _
  have HB0 := hid0 hB0
  have HR0 : Hid (∀ W, Below (w.alloc (.cells #[.slice a L.length c] 24)).heap.size (w.alloc (.cells #[.slice a L.length c] 24)) W → W.cell? ⟨w.heap.size, 0, none⟩ = some (.slice a L.length c)) := hid0 (fun W hW => by rw [cell_of_row _ _ _ _ _ _ ((hW.block w.heap.size (by simp)).trans (heap_alloc_new w _))]; rfl)
  have HXW : Hid (∀ W, Below w.heap.size w W → XA W a L) := hid0 (fun W hW => ha.later hW)
  have M1 : Hid True := trivial
  clear hB0 ha
  go_enter Tryz.func3, Tryz.ntmps3
  go_wp2_with (first
    | (go_at_call 7; refine (HBg.out _ HB0.out).mono ?_; rintro e w1 ⟨rfl, hb1⟩; have r1 := HR0.out w1 hb1; have HB1 := hid0 (Below.later HB0.out hb1); have HB1a := hid0 hb1; clear hb1)
    | (go_at_call 8; clear M1; refine (HPr.out _ _ _ hc HB1.out (HXW.out _ HB1.out)).mono ?_; rintro e w2 ⟨rfl, hb2⟩; have HB2 := hid0 (Below.later HB1.out hb2); have HB2a := hid0 (Below.later HB1a.out hb2); clear hb2)
    | (go_at_call 9; refine (HPa.out _ HB2.out).mono ?_; rintro e w3 ⟨⟨a3, c3, hc3, rfl, hx3⟩, hb3⟩; have hB4 : Below w3.heap.size w3 (w3.alloc (.cells #[.slice a3 L.length c3] 24)) := (Below.refl _ _).alloc (Nat.le_refl _) _; have HX4 := hid0 (hx3.later hB4); have HB4 := hid0 (Below.later (Below.later HB2.out hb3) hB4); have HB4a := hid0 (Below.later (Below.later HB2a.out hb3) hB4); have HR4 : Hid (∀ W, Below (w3.alloc (.cells #[.slice a3 L.length c3] 24)).heap.size (w3.alloc (.cells #[.slice a3 L.length c3] 24)) W → W.cell? ⟨w3.heap.size, 0, none⟩ = some (.slice a3 L.length c3)) := hid0 (fun W hW => by rw [cell_of_row _ _ _ _ _ _ ((hW.block w3.heap.size (by simp)).trans (heap_alloc_new w3 _))]; rfl); clear hx3 hb3 hB4)
    | (go_at_call 8; refine (HPr.out _ _ _ hc3 HB4.out HX4.out).mono ?_; rintro e w5 ⟨rfl, hb5⟩; have r5 := HR0.out w5 (Below.later HB4a.out hb5); have r6 := HR4.out w5 hb5; have HB5 := hid0 (Below.later HB4.out hb5); have HX5 := hid0 (HX4.out.later hb5); clear hb5)
    | (go_at_call 10; refine (HSm.out _ _ _ _ _ (HXW.out _ HB5.out) HX5.out).mono ?_; rintro e w7 ⟨rfl, hb7⟩; have HB7 := hid0 (Below.later HB5.out hb7); clear hb7)
    | fail)
  go_ret
  exact ⟨rfl, HB7.out⟩
theorem bundleBack_any (A : Nat → Addr) (L : List Sec) (a : Option Addr) (c : Nat) (w : World) (hl : L.length ≤ 1000000) (hc : L.length ≤ c) (hb : ∀ s ∈ L, s.ed.length ≤ 1000000000) (hz : ∀ s ∈ L, ∀ e ∈ s.ed, e.2.size ≤ 4194400) (hE : EnvP A w) (ha : XA w a L) :
    Calls Tryz.prog 3 #[.agg #[.slice a L.length c]] w fun e w' => e = .returned (.bool true) ∧ Below w.heap.size w w' := by
  have HBg : Hid (∀ W, Below w.heap.size w W → Calls Tryz.prog 7 #[] W fun e w' => e = .returned (.bool true) ∧ Below W.heap.size W w') := hid0 (fun W hW => begun6_any A W (hE.below hW))
  have HPr : ∀ W a c, L.length ≤ c → Below w.heap.size w W → XA W a L → Calls Tryz.prog 8 #[.agg #[.slice a L.length c]] W fun e w' => e = .returned (.tuple #[.string (strOf (prtF L).2), errO A (prtF L).1]) ∧ Below W.heap.size W w' := fun W a c hc hW hx => by
    have hE2 := hE.below hW
    exact print_any A L a c W hc (fun s hs => Nat.le_trans (hb s hs) (by decide)) hz hE2.mx hE2.sq hE2.dt hE2.se hx
  have key : ∀ i, prtF L = (some i, []) → Calls Tryz.prog 3 #[.agg #[.slice a L.length c]] w fun e w' => e = .returned (.bool true) ∧ Below w.heap.size w w' := fun i hp => by
    refine back_bad L.length c a w 216 (.pointer (some (A i))) HBg (hid0 (fun W hW => ?_))
    have h := HPr W a c hc hW (ha.later hW)
    rw [hp] at h
    exact h
  have hp0 : prtF L = match chkE entE L with
      | some i => (some i, [])
      | none => if 1048576 < (prB L).length then (some 2, []) else (none, prB L) := rfl
  cases hk : chkE entE L with
  | some i =>
    rw [hk] at hp0
    exact key i hp0
  | none =>
    rw [hk] at hp0
    simp only at hp0
    by_cases hlong : 1048576 < (prB L).length
    · rw [if_pos hlong] at hp0
      exact key 2 hp0
    · rw [if_neg hlong] at hp0
      have hI := chk_inv hk
      refine back_ok L a c (strOf (prB L)) w ha hc HBg (hid0 (fun W a c hc hW hx => ?_)) (hid0 (fun W hW => ?_)) (hid0 (fun W a b ca cb h1 h2 => sameBundle_any L a b ca cb W hl hb h1 h2))
      · have h := HPr W a c hc hW hx
        rw [hp0] at h
        exact h
      · have hE2 := hE.below hW
        refine (parse_any A (prB L) (by omega) W hE2.mx hE2.sy hE2.sq hE2.se).mono (fun e w' h => ?_)
        rw [prs_prB hI] at h
        obtain ⟨⟨v, T, hT, hS, rfl⟩, hb⟩ := h
        obtain ⟨a, c, rfl, hc2⟩ := hS.form
        have hx := hS.xa
        rw [hT] at hx
        have hl2 : T.length = L.length := by rw [← secsO_length, hT]
        rw [hl2] at hc2 ⊢
        exact ⟨⟨a, c, hc2, rfl, hx⟩, hb⟩
end Go.Proofs.YtlfeiadgahdgoaaGreatDoor
namespace Go.Proofs.YtlfeiadgahdgoaaGreatDoor
open Go.ChangeShapes Go.WideShapes Go.ChangeAt Go.RowKit
theorem own : ownKnob Tryz.prog.godebug = none := by kernel_rfl
/-- The settled world, the listed variables holding what their initialisers lay. -/
def laidWorld (hold : World) : World := { hold with heap := ((((((((((((((((((((((((((((((((hold.heap.modify 0 fun | .cells _ t frozen => .cells #[.iface 216 (.pointer (some ⟨hold.heap.size + 0, 0, none⟩))] t frozen | o => o).modify 1 fun | .cells _ t frozen => .cells #[.iface 216 (.pointer (some ⟨hold.heap.size + 1, 0, none⟩))] t frozen | o => o).modify 2 fun | .cells _ t frozen => .cells #[.iface 216 (.pointer (some ⟨hold.heap.size + 2, 0, none⟩))] t frozen | o => o).modify 3 fun | .cells _ t frozen => .cells #[.iface 216 (.pointer (some ⟨hold.heap.size + 3, 0, none⟩))] t frozen | o => o).modify 4 fun | .cells _ t frozen => .cells #[.iface 216 (.pointer (some ⟨hold.heap.size + 4, 0, none⟩))] t frozen | o => o).modify 5 fun | .cells _ t frozen => .cells #[.iface 216 (.pointer (some ⟨hold.heap.size + 5, 0, none⟩))] t frozen | o => o).modify 6 fun | .cells _ t frozen => .cells #[.iface 216 (.pointer (some ⟨hold.heap.size + 6, 0, none⟩))] t frozen | o => o).modify 7 fun | .cells _ t frozen => .cells #[.iface 216 (.pointer (some ⟨hold.heap.size + 7, 0, none⟩))] t frozen | o => o).modify 8 fun | .cells _ t frozen => .cells #[.iface 216 (.pointer (some ⟨hold.heap.size + 8, 0, none⟩))] t frozen | o => o).modify 9 fun | .cells _ t frozen => .cells #[.iface 216 (.pointer (some ⟨hold.heap.size + 9, 0, none⟩))] t frozen | o => o).modify 10 fun | .cells _ t frozen => .cells #[.iface 216 (.pointer (some ⟨hold.heap.size + 10, 0, none⟩))] t frozen | o => o).modify 12 fun | .cells _ t frozen => .cells #[.int .u64 1, .int .u64 10, .int .u64 100, .int .u64 1000, .int .u64 10000, .int .u64 100000, .int .u64 1000000, .int .u64 10000000, .int .u64 100000000, .int .u64 1000000000, .int .u64 10000000000, .int .u64 100000000000, .int .u64 1000000000000, .int .u64 10000000000000, .int .u64 100000000000000, .int .u64 1000000000000000, .int .u64 10000000000000000, .int .u64 100000000000000000, .int .u64 1000000000000000000, .int .u64 10000000000000000000] t frozen | o => o).modify 13 fun | .cells _ t frozen => .cells (Go.Pinned.utf8FirstZ.map fun n => Value.int .u8 (Int.ofNat n)).toArray t frozen | o => o).modify 14 fun | .cells _ t frozen => .cells #[.int .u8 128, .int .u8 191, .int .u8 160, .int .u8 191, .int .u8 128, .int .u8 159, .int .u8 144, .int .u8 191, .int .u8 128, .int .u8 143, .int .u8 0, .int .u8 0, .int .u8 0, .int .u8 0, .int .u8 0, .int .u8 0, .int .u8 0, .int .u8 0, .int .u8 0, .int .u8 0, .int .u8 0, .int .u8 0, .int .u8 0, .int .u8 0, .int .u8 0, .int .u8 0, .int .u8 0, .int .u8 0, .int .u8 0, .int .u8 0, .int .u8 0, .int .u8 0] t frozen | o => o).modify 15 fun | .cells _ t frozen => .cells #[.int .u8 0, .int .u8 127, .int .u8 0, .int .u8 0, .int .i64 1, .int .u8 0, .int .u8 194, .int .u8 223, .int .u8 128, .int .u8 191, .int .i64 2, .int .u8 192, .int .u8 224, .int .u8 224, .int .u8 160, .int .u8 191, .int .i64 3, .int .u8 224, .int .u8 225, .int .u8 236, .int .u8 128, .int .u8 191, .int .i64 3, .int .u8 224, .int .u8 237, .int .u8 237, .int .u8 128, .int .u8 159, .int .i64 3, .int .u8 224, .int .u8 238, .int .u8 239, .int .u8 128, .int .u8 191, .int .i64 3, .int .u8 224, .int .u8 240, .int .u8 240, .int .u8 144, .int .u8 191, .int .i64 4, .int .u8 240, .int .u8 241, .int .u8 243, .int .u8 128, .int .u8 191, .int .i64 4, .int .u8 240, .int .u8 244, .int .u8 244, .int .u8 128, .int .u8 143, .int .i64 4, .int .u8 240] t frozen | o => o).modify 16 fun | .cells _ t frozen => .cells #[.int .u8 0, .int .u8 1, .int .u8 28, .int .u8 2, .int .u8 29, .int .u8 14, .int .u8 24, .int .u8 3, .int .u8 30, .int .u8 22, .int .u8 20, .int .u8 15, .int .u8 25, .int .u8 17, .int .u8 4, .int .u8 8, .int .u8 31, .int .u8 27, .int .u8 13, .int .u8 23, .int .u8 21, .int .u8 19, .int .u8 16, .int .u8 7, .int .u8 26, .int .u8 12, .int .u8 18, .int .u8 6, .int .u8 11, .int .u8 5, .int .u8 10, .int .u8 9] t frozen | o => o).modify 17 fun | .cells _ t frozen => .cells #[.int .u8 0, .int .u8 1, .int .u8 56, .int .u8 2, .int .u8 57, .int .u8 49, .int .u8 28, .int .u8 3, .int .u8 61, .int .u8 58, .int .u8 42, .int .u8 50, .int .u8 38, .int .u8 29, .int .u8 17, .int .u8 4, .int .u8 62, .int .u8 47, .int .u8 59, .int .u8 36, .int .u8 45, .int .u8 43, .int .u8 51, .int .u8 22, .int .u8 53, .int .u8 39, .int .u8 33, .int .u8 30, .int .u8 24, .int .u8 18, .int .u8 12, .int .u8 5, .int .u8 63, .int .u8 55, .int .u8 48, .int .u8 27, .int .u8 60, .int .u8 41, .int .u8 37, .int .u8 16, .int .u8 46, .int .u8 35, .int .u8 44, .int .u8 21, .int .u8 52, .int .u8 32, .int .u8 23, .int .u8 11, .int .u8 54, .int .u8 26, .int .u8 40, .int .u8 15, .int .u8 34, .int .u8 20, .int .u8 31, .int .u8 10, .int .u8 25, .int .u8 14, .int .u8 19, .int .u8 9, .int .u8 13, .int .u8 8, .int .u8 7, .int .u8 6] t frozen | o => o).modify 19 fun | .cells _ t frozen => .cells #[.iface 216 (.pointer (some ⟨hold.heap.size + 11, 0, none⟩))] t frozen | o => o).modify 20 fun | .cells _ t frozen => .cells #[.iface 216 (.pointer (some ⟨hold.heap.size + 12, 0, none⟩))] t frozen | o => o).push (.cells #[.string ⟨#[97, 98, 111, 118, 101, 32, 97, 32, 108, 105, 109, 105, 116]⟩] 218)).push (.cells #[.string ⟨#[97, 32, 116, 101, 120, 116, 32, 111, 114, 32, 98, 121, 116, 101, 115, 32, 116, 104, 97, 116, 32, 99, 97, 110, 110, 111, 116, 32, 98, 101, 32, 114, 101, 97, 100]⟩] 218)).push (.cells #[.string ⟨#[97, 32, 110, 117, 109, 98, 101, 114, 32, 111, 114, 32, 97, 110, 32, 97, 114, 103, 117, 109, 101, 110, 116, 32, 105, 115, 32, 111, 117, 116, 32, 111, 102, 32, 105, 116, 115, 32, 112, 108, 97, 99, 101]⟩] 218)).push (.cells #[.string ⟨#[115, 111, 109, 101, 116, 104, 105, 110, 103, 32, 105, 115, 32, 109, 105, 115, 115, 105, 110, 103]⟩] 218)).push (.cells #[.string ⟨#[116, 104, 101, 114, 101, 32, 116, 119, 105, 99, 101]⟩] 218)).push (.cells #[.string ⟨#[110, 111, 116, 32, 105, 110, 32, 111, 114, 100, 101, 114]⟩] 218)).push (.cells #[.string ⟨#[110, 111, 116, 32, 116, 104, 101, 114, 101]⟩] 218)).push (.cells #[.string ⟨#[103, 111, 101, 115, 32, 114, 111, 117, 110, 100, 32, 105, 110, 32, 97, 32, 99, 105, 114, 99, 108, 101]⟩] 218)).push (.cells #[.string ⟨#[116, 104, 101, 32, 115, 117, 109, 32, 100, 111, 101, 115, 32, 110, 111, 116, 32, 102, 105, 116]⟩] 218)).push (.cells #[.string ⟨#[110, 111, 116, 32, 116, 104, 101, 32, 111, 110, 101, 32, 102, 111, 114, 109, 32, 116, 104, 97, 116, 32, 105, 115, 32, 119, 114, 105, 116, 116, 101, 110]⟩] 218)).push (.cells #[.string ⟨#[105, 116, 32, 104, 97, 115, 32, 101, 110, 100, 101, 100]⟩] 218)).push (.cells #[.string ⟨#[105, 110, 118, 97, 108, 105, 100, 32, 115, 121, 110, 116, 97, 120]⟩] 218)).push (.cells #[.string ⟨#[118, 97, 108, 117, 101, 32, 111, 117, 116, 32, 111, 102, 32, 114, 97, 110, 103, 101]⟩] 218)) }
set_option maxRecDepth 100000 in
theorem door_shaped (os : Os) (args : Array Value) : ((laidWorld (World.holding Tryz.prog os ⟨#[], #[], []⟩)).forCall (fun _ _ => 0) ⟨#[], args, []⟩).Shaped Tryz.prog :=
  World.shaped_of_RefB (by kernel_rfl) (by kernel_rfl)
/-- An input that fits, at a world that is written out. -/
theorem witness_row_shaped {H : Type} {enc : TypeId × Value → H} {C : Checked} {os : Os} {f : FuncId} {fn : Func} {s : OpenSpec} {conds : List PathCond} {apart : Bool} {laid : List (String × DataW Unit)} (w0 : World) (args : Array Value) (hos : w0.os = os)
    (hsh : (w0.forCall (fun _ _ => 0) ⟨#[], args, []⟩).Shaped C.prog)
    (hok : Input.okWideB C.prog (w0.forCall (fun _ _ => 0) ⟨#[], args, []⟩) f ⟨#[], args, []⟩ = true)
    (hrow : s.preRow enc C.prog fn conds apart laid (w0.forCall (fun _ _ => 0) ⟨#[], args, []⟩).memory args) :
    ∃ (w : World) (tape : Tape) (i : Input), w.os = os ∧ (w.forCall tape i).Shaped C.prog ∧ i.vars = [] ∧ Input.okWide C.prog (w.forCall tape i) .any w.heap.size f i ∧
      s.preRow enc C.prog fn conds apart laid (w.forCall tape i).memory i.args ∧ ({} : Assume).holds C.prog (lone (Frame.enter C.prog f i.args .normal) [] (w.forCall tape i)) :=
  ⟨w0, fun _ _ => 0, ⟨#[], args, []⟩, hos, hsh, (Input.okWide_of_okWideB (base := 0) hok).1, (Input.okWide_of_okWideB hok).2, hrow, by
    simp only [Assume.holds]
    exact ⟨by simp, by simp, by simp, by simp, by simp⟩⟩
theorem laidOut : laidOutB Tryz.prog = true := by kernel_rfl
set_option maxRecDepth 10000 in
/-- The frame of a law of one parameter that answers true, writes nothing that was there, and lists no variable among its readings. -/
theorem law_contract {H : Type} {enc : TypeId × Value → H} {f : FuncId} {fn : Func} {s : ChangeSpec} {t : TypeId} (hp : fn.params = #[t]) (hrt : fn.resultTypes = #[4]) (hvars : s.vars = [])
    (hfn : ∀ (K : Type) (d : DataW K), s.fn K [d] = { results := [.lit (.bool true)], args := [d] }) (hread : Tryz.prog.readableRec t = true) (hrow : t < Tryz.prog.types.size)
    (W : World) (base : Nat) (args : Array Value) (ds gs : List (DataW H)) (before : List MemPlace)
    (hval : ∀ (j : Nat) t v, fn.params[j]? = some t → args[j]? = some v → Value.okWide Tryz.prog W .any base t v)
    (hW : DataW.Whole enc Tryz.prog fn.params.toList s.vars false W args.toList ds gs before)
    (hsz : (DataW.weightsEach Tryz.prog (fn.params.toList ++ s.plain.varTypes Tryz.prog) (ds ++ gs)).all (· ≤ reachBytes) = true)
    (walk : ∀ (v : Value) (d : DataW H) (p : List MemPlace), Value.okWide Tryz.prog W .any base t v → DataW.Trod enc Tryz.prog W 0 (fun _ => true) true t v d p → (∀ x ∈ p, x.block < W.heap.size) → (∀ x ∈ d.weights Tryz.prog t, x ≤ reachBytes) → ds = [d] → gs = [] →
      Calls Tryz.prog f #[v] W fun e W' => e = .returned (.bool true) ∧ Below W.heap.size W W') :
    Calls Tryz.prog f args W fun e W' => ∃ v, e = .returned v ∧ s.post enc Tryz.prog fn false true false false W args v W' := by
  have hW' := hW
  obtain ⟨p, q, hA0, hV, rfl, hfz, hnd⟩ := hW
  have hA : DataW.TrodAll enc Tryz.prog W 0 (fun _ => true) true fn.params.toList args.toList ds p := hA0
  rw [hp] at hA hval hsz
  obtain ⟨v0, vs0, d0, ds0, p0, q0, hargs, rfl, rfl, h0, r0⟩ := trodAll_cons hA
  obtain ⟨rfl, rfl, rfl⟩ := trodAll_nil r0
  obtain rfl : args = #[v0] := by cases args; simp_all
  rw [hvars] at hV
  obtain ⟨rfl, rfl⟩ := trodVars_none hV
  have hlt : ∀ x ∈ p0, x.block < W.heap.size := fun x hx => by have := hW'.lt x (by simpa using hx); simpa using this
  have hw : ∀ x ∈ d0.weights Tryz.prog t, x ≤ reachBytes := fun x hx => by
    have := List.all_eq_true.1 hsz x (DataW.weights_mem_each (j := 0) (by simp) (by simp) x hx)
    simpa using this
  refine (walk v0 d0 p0 (hval 0 t v0 rfl rfl) h0 hlt hw rfl rfl).mono fun e W' ⟨he, hb⟩ => ?_
  subst he
  refine ⟨_, rfl, [d0], [], _, [], p0 ++ [], [], hW', ?_, ?_, ?_, hb.frame _, fun h => by cases h⟩
  · rw [hrt, show ([d0] ++ ([] : List (DataW H))) = [d0] from rfl, hfn]
    exact trodAll_cons_mk (shut_bool Tryz.underlying4 true) trodAll_mk0
  · rw [hp, show ([d0] ++ ([] : List (DataW H))) = [d0] from rfl, hfn]
    exact trodAll_cons_mk (Below.trod laidOut hread hrow h0 hb hlt) trodAll_mk0
  · rw [hvars, show ([d0] ++ ([] : List (DataW H))) = [d0] from rfl, hfn]
    rfl
set_option maxRecDepth 10000 in
/-- The same frame for a law without parameters. -/
theorem law_contract0 {H : Type} {enc : TypeId × Value → H} {f : FuncId} {fn : Func} {s : ChangeSpec} (hp : fn.params = #[]) (hrt : fn.resultTypes = #[4]) (hvars : s.vars = [])
    (hfn : ∀ (K : Type), s.fn K [] = { results := [.lit (.bool true)], args := [] })
    (W : World) (args : Array Value) (ds gs : List (DataW H)) (before : List MemPlace)
    (hW : DataW.Whole enc Tryz.prog fn.params.toList s.vars false W args.toList ds gs before)
    (walk : Calls Tryz.prog f #[] W fun e W' => e = .returned (.bool true) ∧ Below W.heap.size W W') :
    Calls Tryz.prog f args W fun e W' => ∃ v, e = .returned v ∧ s.post enc Tryz.prog fn false true false false W args v W' := by
  have hW' := hW
  obtain ⟨p, q, hA0, hV, rfl, hfz, hnd⟩ := hW
  have hA : DataW.TrodAll enc Tryz.prog W 0 (fun _ => true) true fn.params.toList args.toList ds p := hA0
  rw [hp] at hA
  obtain ⟨hargs, rfl, rfl⟩ := trodAll_nil hA
  obtain rfl : args = #[] := by cases args; simp_all
  rw [hvars] at hV
  obtain ⟨rfl, rfl⟩ := trodVars_none hV
  refine walk.mono fun e W' ⟨he, hb⟩ => ?_
  subst he
  refine ⟨_, rfl, [], [], _, [], [], [], hW', ?_, ?_, ?_, hb.frame _, fun h => by cases h⟩
  · rw [hrt, show (([] : List (DataW H)) ++ []) = [] from rfl, hfn]
    exact trodAll_cons_mk (shut_bool Tryz.underlying4 true) trodAll_mk0
  · rw [hp, show (([] : List (DataW H)) ++ []) = [] from rfl, hfn]
    exact trodAll_mk0
  · rw [hvars, show (([] : List (DataW H)) ++ []) = [] from rfl, hfn]
    rfl
end Go.Proofs.YtlfeiadgahdgoaaGreatDoor
namespace Go.Proofs.YtlfeiadgahdgoaaGreatDoor
open Go.ChangeShapes Go.WideShapes Go.ChangeAt Go.RowKit
theorem star : ("*" ++ "errors.errorString" : String) = "*errors.errorString" := by decide
theorem errRow (u : TypeId) (h : Tryz.prog.typeName? 3 u = some "*errors.errorString") : u = 216 :=
  typeName_ptr_named (nm := "errors.errorString") (by rw [star]; kernel_rfl) (by kernel_rfl) (by decide) u (by rw [star]; exact h)
theorem cellsErr : Tryz.prog.cellsOf 218 = 1 := by kernel_rfl
theorem cellsStr : Tryz.prog.cellsOf 9 = 1 := by kernel_rfl
/-- A listed refusal. -/
def sentRow (x : String × List UInt8) : String × DataW Unit := (x.1, .iface "*errors.errorString" (.ptr (.agg [.lit (.string x.2)])))
set_option maxRecDepth 10000 in
theorem sents_list {W : World} (rest : List (String × DataW Unit)) : ∀ (L : List (String × List UInt8)) (ps : List MemPlace),
    DataW.LaidVars Tryz.prog W (L.map sentRow ++ rest) ps → ps.Nodup →
    (∀ b off, MemPlace.cell b off ∈ ps → (∃ c t, W.heap[b]? = some (.cells c t (0, 0))) ∧ ∀ u v, W.cell? ⟨b, off, none⟩ = some (.iface u v) → Value.okWide Tryz.prog W .any 0 u v) →
    (∀ x ∈ L, ∀ g t, Tryz.prog.globalNamed x.1 = some g → (Tryz.prog.globals[g]?).map (·.type) = some t → t = 27) →
    ∃ xs : List Addr, xs.length = L.length ∧ xs.Nodup ∧ (∀ a ∈ xs, MemPlace.cell a.block a.off ∈ ps ∧ ∃ c t, W.heap[a.block]? = some (.cells c t (0, 0))) ∧
      ∀ i (h : i < L.length) g, Tryz.prog.globalNamed (L[i]).1 = some g → W.cell? ⟨g, 0, none⟩ = some (.iface 216 (.pointer (some (xs.getD i ⟨0, 0, none⟩)))) := by
  intro L
  induction L with
  | nil => intro ps _ _ _ _; exact ⟨[], rfl, List.nodup_nil, (fun a h => by cases h), fun i h => absurd h (Nat.not_lt_zero _)⟩
  | cons x L ih =>
    intro ps hl hnd hrows hty
    obtain ⟨g0, t0, cs0, f0, p0, q0, hg0, ht0, hv0, hd0, hl', rfl⟩ := hl
    obtain rfl := hty x List.mem_cons_self g0 t0 hg0 ht0
    obtain ⟨l0⟩ := cs0
    have ok0 : ∀ u v, l0 = [.iface u v] → Value.okWide Tryz.prog W .any 0 u v := fun u v e => by
      subst e
      exact (hrows g0 0 (by simp [MemPlace.row])).2 u v (by simpa using World.var?_cell hg0 hv0 0)
    obtain ⟨a, s, rfl, _, _, _, rfl⟩ := errorString_of_trod Tryz.underlying27 errRow Tryz.underlying216 Tryz.underlying218 rfl rfl Tryz.underlying9 cellsErr cellsStr hd0 ok0
    have hnd1 := List.nodup_append.1 hnd
    obtain ⟨xs, h1, h2, h3, h4⟩ := ih q0 hl' hnd1.2.1 (fun b off hb => hrows b off (List.mem_append_right _ hb)) (fun y hy => hty y (List.mem_cons_of_mem _ hy))
    have hmem : MemPlace.cell a.block a.off ∈ MemPlace.row ⟨g0, 0, none⟩ (#[Value.iface 216 (.pointer (some a))] : Array Value).size ++ MemPlace.row a 1 := by simp [MemPlace.row]
    refine ⟨a :: xs, by simp [h1], List.nodup_cons.2 ⟨fun hin => ?_, h2⟩, fun b hb => ?_, fun i hi g hg => ?_⟩
    · exact (hnd1.2.2 _ hmem _ (h3 a hin).1) rfl
    · rcases List.mem_cons.1 hb with rfl | hb
      · exact ⟨List.mem_append_left _ hmem, (hrows _ _ (List.mem_append_left _ hmem)).1⟩
      · exact ⟨List.mem_append_right _ (h3 b hb).1, (h3 b hb).2⟩
    · cases i with
      | zero =>
        have e : g = g0 := Option.some.inj (hg.symm.trans hg0)
        subst e
        simpa using World.var?_cell hg0 hv0 0
      | succ i => exact h4 i (by simpa using hi) g hg
/-- The text of a listed refusal. -/
def sentText : DataW Unit → List UInt8
  | .iface _ (.ptr (.agg [.lit (.string s)])) => s
  | _ => []
def sentList : List (String × List UInt8) := [("caesura/api.ErrArg", sentText Rows.laid_caesura_api_ErrArg), ("caesura/api.ErrText", sentText Rows.laid_caesura_api_ErrText), ("caesura/api.ErrMany", sentText Rows.laid_caesura_api_ErrMany), ("caesura/api.ErrShort", sentText Rows.laid_caesura_api_ErrShort), ("caesura/api.ErrTwice", sentText Rows.laid_caesura_api_ErrTwice), ("caesura/api.ErrLost", sentText Rows.laid_caesura_api_ErrLost), ("caesura/api.ErrOrder", sentText Rows.laid_caesura_api_ErrOrder), ("caesura/api.ErrCycle", sentText Rows.laid_caesura_api_ErrCycle), ("caesura/api.ErrSum", sentText Rows.laid_caesura_api_ErrSum), ("caesura/api.ErrForm", sentText Rows.laid_caesura_api_ErrForm), ("caesura/api.ErrEnd", sentText Rows.laid_caesura_api_ErrEnd)]
theorem sentTypes : ∀ x ∈ sentList, ∀ g t, Tryz.prog.globalNamed x.1 = some g → (Tryz.prog.globals[g]?).map (·.type) = some t → t = 27 := by
  have h : (sentList.all fun x => match Tryz.prog.globalNamed x.1 with | some g => (Tryz.prog.globals[g]?).map (·.type) == some 27 | none => true) = true := by kernel_rfl
  intro x hx g t hg ht
  have := List.all_eq_true.1 h x hx
  rw [hg] at this
  simp only [ht] at this
  simpa using this
theorem g_ErrArg : Tryz.prog.globalNamed "caesura/api.ErrArg" = some 2 := by kernel_rfl
theorem g_ErrText : Tryz.prog.globalNamed "caesura/api.ErrText" = some 1 := by kernel_rfl
theorem g_ErrMany : Tryz.prog.globalNamed "caesura/api.ErrMany" = some 0 := by kernel_rfl
theorem g_ErrShort : Tryz.prog.globalNamed "caesura/api.ErrShort" = some 3 := by kernel_rfl
theorem g_ErrTwice : Tryz.prog.globalNamed "caesura/api.ErrTwice" = some 4 := by kernel_rfl
theorem g_ErrLost : Tryz.prog.globalNamed "caesura/api.ErrLost" = some 6 := by kernel_rfl
theorem g_ErrOrder : Tryz.prog.globalNamed "caesura/api.ErrOrder" = some 5 := by kernel_rfl
theorem g_ErrCycle : Tryz.prog.globalNamed "caesura/api.ErrCycle" = some 7 := by kernel_rfl
theorem g_ErrSum : Tryz.prog.globalNamed "caesura/api.ErrSum" = some 8 := by kernel_rfl
theorem g_ErrForm : Tryz.prog.globalNamed "caesura/api.ErrForm" = some 9 := by kernel_rfl
theorem g_ErrEnd : Tryz.prog.globalNamed "caesura/api.ErrEnd" = some 10 := by kernel_rfl
def sentList5 : List (String × List UInt8) := [("caesura/api.ErrArg", sentText Rows.laid_caesura_api_ErrArg), ("caesura/api.ErrText", sentText Rows.laid_caesura_api_ErrText), ("caesura/api.ErrMany", sentText Rows.laid_caesura_api_ErrMany), ("caesura/api.ErrTwice", sentText Rows.laid_caesura_api_ErrTwice), ("caesura/api.ErrOrder", sentText Rows.laid_caesura_api_ErrOrder)]
theorem sentIn5 : ∀ x ∈ sentList5, x ∈ sentList := by
  intro x hx
  simp only [sentList5, List.mem_cons, List.not_mem_nil, or_false] at hx
  simp only [sentList, List.mem_cons, List.not_mem_nil, or_false]
  rcases hx with rfl | rfl | rfl | rfl | rfl <;> simp
def idx5 (i : Nat) : Nat := [0, 1, 2, 0, 3, 0, 4].getD i 0
theorem sent_cases {i : Nat} (h : isSent i = true) : i = 0 ∨ i = 1 ∨ i = 2 ∨ i = 4 ∨ i = 6 := by
  simp only [isSent, Bool.or_eq_true, beq_iff_eq] at h
  omega
theorem sents5_of {W : World} {rest : List (String × DataW Unit)} (h : laidMet Tryz.prog (sentList5.map sentRow ++ rest) W) : ∃ A, Sents W A := by
  obtain ⟨ps, hl, hnd, hrows⟩ := h
  obtain ⟨xs, h1, h2, h3, h4⟩ := sents_list rest sentList5 ps hl hnd hrows (fun x hx => sentTypes x (sentIn5 x hx))
  have h5 : xs.length = 5 := h1
  have hlt : ∀ i, isSent i = true → idx5 i < xs.length := fun i hi => by rcases sent_cases hi with rfl | rfl | rfl | rfl | rfl <;> simp [idx5, h5]
  refine ⟨fun i => xs.getD (idx5 i) ⟨0, 0, none⟩, h4 0 (by decide) _ g_ErrArg, h4 1 (by decide) _ g_ErrText, h4 2 (by decide) _ g_ErrMany, h4 3 (by decide) _ g_ErrTwice, h4 4 (by decide) _ g_ErrOrder, fun i j hi hj hij e => ?_, fun i hi => ?_⟩
  · have hi' := hlt i hi
    have hj' := hlt j hj
    simp only [List.getD_eq_getElem?_getD, List.getElem?_eq_getElem hi', List.getElem?_eq_getElem hj', Option.getD_some] at e
    have e2 := (List.getElem_inj h2).1 e
    rcases sent_cases hi with rfl | rfl | rfl | rfl | rfl <;> rcases sent_cases hj with rfl | rfl | rfl | rfl | rfl <;> first | exact hij rfl | (revert e2; decide)
  · have hi' := hlt i hi
    simp only [List.getD_eq_getElem?_getD, List.getElem?_eq_getElem hi', Option.getD_some]
    exact (h3 _ (List.getElem_mem hi')).2
theorem g_Syn : Tryz.prog.globalNamed "strconv.ErrSyntax" = some 19 := by kernel_rfl
theorem synTypes : ∀ x ∈ [("strconv.ErrSyntax", sentText Rows.laid_strconv_ErrSyntax)], ∀ g t, Tryz.prog.globalNamed x.1 = some g → (Tryz.prog.globals[g]?).map (·.type) = some t → t = 27 := by
  have h : ((Tryz.prog.globals[19]?).map (·.type)) = some 27 := by kernel_rfl
  intro x hx g t hg ht
  rw [List.mem_singleton] at hx
  subst hx
  have e : g = 19 := Option.some.inj (hg.symm.trans g_Syn)
  subst e
  exact Option.some.inj (ht.symm.trans h)
theorem syn_of {W : World} {rest : List (String × DataW Unit)} (h : laidMet Tryz.prog (("strconv.ErrSyntax", Rows.laid_strconv_ErrSyntax) :: rest) W) : ∃ ev, W.cell? ⟨19, 0, none⟩ = some ev ∧ (ev = .nilIface ∨ ∃ te pe, ev = .iface te pe) := by
  obtain ⟨ps, hl, hnd, hrows⟩ := h
  obtain ⟨xs, _, _, _, h4⟩ := sents_list rest [("strconv.ErrSyntax", sentText Rows.laid_strconv_ErrSyntax)] ps hl hnd hrows synTypes
  exact ⟨_, h4 0 (by decide) _ g_Syn, .inr ⟨_, _, rfl⟩⟩
end Go.Proofs.YtlfeiadgahdgoaaGreatDoor
namespace Go.Proofs.YtlfeiadgahdgoaaGreatDoor
open Go.ChangeShapes Go.WideShapes Go.ChangeAt Go.RowKit Go.Joins
theorem array_of {H : Type} {enc : TypeId × Value → H} {P : Program} {w : World} {base : Nat} {sp : Nat → Bool} {held : Bool} {fuel : Nat} {t e : TypeId} {n m : Nat} {cs : List Value} {ds : List (DataW H)} {p : List MemPlace}
    (ht : P.underlying t = some (.array n e)) (hce : P.cellsOf e = m) (h : DataW.trod enc P w base sp held fuel t cs = some (.agg ds, p)) (i : Nat) (hi : i < n) :
    ∃ fuel' d q, ds[i]? = some d ∧ DataW.trod enc P w base sp held fuel' e ((cs.drop (i * m)).take m) = some (d, q) := by
  cases fuel with
  | zero => simp [DataW.trod] at h
  | succ fuel =>
    simp only [DataW.trod, ht, hce] at h
    split at h
    · obtain ⟨xs, hm, hx⟩ := Option.map_eq_some_iff.1 h
      obtain ⟨b, hb, hf⟩ := Lib.mapM_at hm i i (by simp [hi])
      have hxs : xs.map (·.1) = ds := by
        have := congrArg Prod.fst hx
        simpa using this
      refine ⟨fuel, b.1, b.2, ?_, hf⟩
      rw [← hxs]
      simp [hb]
    · cases h
theorem struct_of {H : Type} {enc : TypeId × Value → H} {P : Program} {w : World} {base : Nat} {sp : Nat → Bool} {held : Bool} {fuel : Nat} {e : TypeId} {fs : Array Field} {cs : List Value} {ds : List (DataW H)} {p : List MemPlace}
    (he : P.underlying e = some (.struct fs)) (h : DataW.trod enc P w base sp held fuel e cs = some (.agg ds, p)) (k : Nat) (f : Field) (hk : fs.toList[k]? = some f) :
    ∃ fuel' d q, ds[k]? = some d ∧ DataW.trod enc P w base sp held fuel' f.type ((cs.drop f.offset).take (P.cellsOf f.type)) = some (d, q) := by
  cases fuel with
  | zero => simp [DataW.trod] at h
  | succ fuel =>
    simp only [DataW.trod, he] at h
    split at h
    · obtain ⟨xs, hm, hx⟩ := Option.map_eq_some_iff.1 h
      obtain ⟨b, hb, hf⟩ := Lib.mapM_at hm k f hk
      have hxs : xs.map (·.1) = ds := by
        have := congrArg Prod.fst hx
        simpa using this
      refine ⟨fuel, b.1, b.2, ?_, hf⟩
      rw [← hxs]
      simp [hb]
    · cases h
theorem gSeq : Tryz.prog.globalNamed "caesura/units.sequences" = some 15 := by kernel_rfl
theorem gSeqType : (Tryz.prog.globals[15]?).map (·.type) = some 185 := by kernel_rfl
theorem cellsRow : Tryz.prog.cellsOf 141 = 6 := by kernel_rfl
def rowLits {H : Type} (i : Nat) : List (DataW H) := [.lit (.int .u8 (tLo i)), .lit (.int .u8 (tHi i)), .lit (.int .u8 (tLo2 i)), .lit (.int .u8 (tHi2 i)), .lit (.int .i64 (tSz i)), .lit (.int .u8 (tMk i))]
theorem laid_rows : (Rows.laid_caesura_units_sequences : DataW Unit) = .agg ((List.range 9).map fun i => .agg (rowLits i)) := by rfl
theorem one_int {H : Type} {enc : TypeId × Value → H} {P : Program} {w : World} {base : Nat} {sp : Nat → Bool} {held : Bool} {fuel : Nat} {t : TypeId} {k : IntKind} {cs : List Value} {z : Int} {d : DataW H} {q : List MemPlace} (o : Nat)
    (ht : P.underlying t = some (.int k)) (hc : P.cellsOf t = 1) (h : DataW.trod enc P w base sp held fuel t ((cs.drop o).take (P.cellsOf t)) = some (d, q)) (hd : some d = some (.lit (.int k z))) : cs[o]? = some (.int k z) := by
  rw [hc] at h
  obtain ⟨z', hcs, e, _⟩ := DataW.trod_int ht h
  obtain rfl : d = _ := congrArg Prod.fst e
  simp only [Option.some.injEq, DataW.lit.injEq, Lit.int.injEq, true_and] at hd
  subst hd
  have := congrArg (·[0]?) hcs
  simpa [List.getElem?_take, List.getElem?_drop] using this
theorem seqAt_of {W : World} {rest : List (String × DataW Unit)} (h : laidMet Tryz.prog (("caesura/units.sequences", Rows.laid_caesura_units_sequences) :: rest) W) : SeqAt W := by
  obtain ⟨ps, ⟨g', t', cs, fuel, p, q, hg', ht', hvar, hd, _, _⟩, _⟩ := h
  obtain rfl := Option.some.inj (gSeq.symm.trans hg')
  obtain rfl := Option.some.inj (gSeqType.symm.trans ht')
  rw [laid_rows] at hd
  intro i hi k hk
  obtain ⟨f1, d1, q1, hd1, h1⟩ := array_of (m := 6) Tryz.underlying185 cellsRow hd i hi
  have e1 : d1 = .agg (rowLits i) := by simpa [hi] using hd1.symm
  subst e1
  have hc := World.var?_cell gSeq hvar (i * 6 + k)
  rw [hc]
  have key : ((cs.toList.drop (i * 6)).take 6)[k]? = (rowCells i)[k]? := by
    obtain rfl | rfl | rfl | rfl | rfl | rfl : k = 0 ∨ k = 1 ∨ k = 2 ∨ k = 3 ∨ k = 4 ∨ k = 5 := by omega
    · obtain ⟨f2, d2, q2, hd2, h2⟩ := struct_of Tryz.underlying141 h1 0 _ rfl
      exact one_int 0 Tryz.underlying5 (by kernel_rfl) h2 hd2.symm
    · obtain ⟨f2, d2, q2, hd2, h2⟩ := struct_of Tryz.underlying141 h1 1 _ rfl
      exact one_int 1 Tryz.underlying5 (by kernel_rfl) h2 hd2.symm
    · obtain ⟨f2, d2, q2, hd2, h2⟩ := struct_of Tryz.underlying141 h1 2 _ rfl
      exact one_int 2 Tryz.underlying5 (by kernel_rfl) h2 hd2.symm
    · obtain ⟨f2, d2, q2, hd2, h2⟩ := struct_of Tryz.underlying141 h1 3 _ rfl
      exact one_int 3 Tryz.underlying5 (by kernel_rfl) h2 hd2.symm
    · obtain ⟨f2, d2, q2, hd2, h2⟩ := struct_of Tryz.underlying141 h1 4 _ rfl
      exact one_int 4 Tryz.underlying3 (by kernel_rfl) h2 hd2.symm
    · obtain ⟨f2, d2, q2, hd2, h2⟩ := struct_of Tryz.underlying141 h1 5 _ rfl
      exact one_int 5 Tryz.underlying5 (by kernel_rfl) h2 hd2.symm
  rw [← key, List.getElem?_take, if_pos hk, List.getElem?_drop]
  simp
end Go.Proofs.YtlfeiadgahdgoaaGreatDoor
namespace Go.Proofs.YtlfeiadgahdgoaaGreatDoor
open Go.ChangeShapes Go.WideShapes Go.ChangeAt Go.RowKit Go.Joins
theorem laid_tail {P : Program} {w : World} {x : String × DataW Unit} {l : List (String × DataW Unit)} (h : laidMet P (x :: l) w) : laidMet P l w := by
  obtain ⟨ps, hl, hnd, hrows⟩ := h
  obtain ⟨g0, t0, cs0, f0, p0, q0, hg0, ht0, hv0, hd0, hl', rfl⟩ := hl
  exact ⟨q0, hl', (List.nodup_append.1 hnd).2.1, fun b off hb => hrows b off (List.mem_append_right _ hb)⟩
theorem mx_of {W : World} (h : W.ShapedOpen Tryz.prog) : Mx W :=
  cell_of_shapedOpen_int (g := 11) (t := 3) (zero := #[.int .i64 0]) (k := .i64) h (of_decide_eq_true (by kernel_rfl)) (by kernel_rfl) rfl (by kernel_rfl) (by kernel_rfl) Tryz.underlying3
theorem g64 : Tryz.prog.globalNamed "math/bits.deBruijn64tab" = some 17 := by kernel_rfl
theorem g64Type : (Tryz.prog.globals[17]?).map (·.type) = some 195 := by kernel_rfl
theorem cells64 : Tryz.prog.cellsOf 195 = 64 := by kernel_rfl
theorem cellsU8 : Tryz.prog.cellsOf 5 = 1 := by kernel_rfl
def tab64 : List Int := [0, 1, 56, 2, 57, 49, 28, 3, 61, 58, 42, 50, 38, 29, 17, 4, 62, 47, 59, 36, 45, 43, 51, 22, 53, 39, 33, 30, 24, 18, 12, 5, 63, 55, 48, 27, 60, 41, 37, 16, 46, 35, 44, 21, 52, 32, 23, 11, 54, 26, 40, 15, 34, 20, 31, 10, 25, 14, 19, 9, 13, 8, 7, 6]
theorem tab64_at : ∀ j, j < Lib.deBruijn64tab.length → tab64.getD j 0 = ((Lib.deBruijn64tab.getD j 0 : Nat) : Int) := by decide
theorem tab_of {W : World} {rest : List (String × DataW Unit)} (h : laidMet Tryz.prog (("math/bits.deBruijn64tab", Rows.laid_math_bits_deBruijn64tab) :: rest) W) : TabAt 17 Lib.deBruijn64tab W := by
  have ht : Lib.TabIs Tryz.prog W "math/bits.deBruijn64tab" .u8 tab64 :=
    Lib.tabIs_of_head (rest := rest) g64 g64Type Tryz.underlying195 Tryz.underlying5 cellsU8 cells64 h
  intro j hj
  have hc := ht.cell g64 j (by have e : tab64.length = Lib.deBruijn64tab.length := rfl; omega)
  rw [hc, tab64_at j hj]
theorem cellsBool : Tryz.prog.cellsOf 4 = 1 := by kernel_rfl
theorem cellsEdit : Tryz.prog.cellsOf 40 = 2 := by kernel_rfl
theorem cellsEdits : Tryz.prog.cellsOf 36 = 1 := by kernel_rfl
theorem cellsSec : Tryz.prog.cellsOf 38 = 3 := by kernel_rfl
theorem cellsSecs : Tryz.prog.cellsOf 22 = 1 := by kernel_rfl
theorem cellsBundle : Tryz.prog.cellsOf 24 = 1 := by kernel_rfl
theorem lt_of_cell {W : World} {b o : Nat} {u : Value} (h : W.cell? ⟨b, o, none⟩ = some u) : b < W.heap.size := World.block_lt_of_cell? W _ h
theorem bulk_one {H : Type} (D : Nat → DataW H) (l : List Nat) (h : ∀ i ∈ l, 1 ≤ Rows.uptoBulk (D i)) : l.length ≤ Rows.uptoBulkAll (l.map D) := by
  induction l with
  | nil => simp
  | cons x r ih => rw [List.map_cons, Rows.uptoBulkAll, List.length_cons]; have h1 := h x (.head _); have := ih (fun i hi => h i (.tail _ hi)); omega
theorem bulk_mem {H : Type} (D : Nat → DataW H) (l : List Nat) (i : Nat) (h : i ∈ l) : Rows.uptoBulk (D i) ≤ Rows.uptoBulkAll (l.map D) := by
  induction l with
  | nil => cases h
  | cons x r ih =>
    rw [List.map_cons, Rows.uptoBulkAll]
    rcases List.mem_cons.1 h with rfl | h
    · omega
    · have := ih h; omega
theorem bulk_pos {H : Type} (d : DataW H) : 1 ≤ Rows.uptoBulk d := by
  cases d with
  | lit l => cases l <;> simp [Rows.uptoBulk]
  | _ => simp [Rows.uptoBulk]
theorem bulk_four {H : Type} (D : Nat → DataW H) (l : List Nat) (h : ∀ i ∈ l, 4 ≤ Rows.uptoBulk (D i)) : l.length * 4 ≤ Rows.uptoBulkAll (l.map D) := by
  induction l with
  | nil => simp
  | cons x r ih => rw [List.map_cons, Rows.uptoBulkAll, List.length_cons]; have h1 := h x (.head _); have := ih (fun i hi => h i (.tail _ hi)); omega
set_option maxRecDepth 100000 in
theorem open_edit {H : Type} {enc : TypeId × Value → H} {w : World} {base : Nat} {spare : Nat → Bool} {held : Bool} {n : Nat} {a : Addr} {i : Nat} {cs : List Value} {x : DataW H × List MemPlace}
    (h1 : w.cells? base (a.add (i * 2)) 2 = some cs) (h2 : DataW.trod enc Tryz.prog w base spare held n 40 cs = some x) :
    ∃ t : Bool × ByteArray, (i = 0 → a.spot = none) ∧ (a.spot = none → w.cell? ⟨a.block, a.off + i * 2, none⟩ = some (.bool t.1) ∧ w.cell? ⟨a.block, a.off + i * 2 + 1, none⟩ = some (.string t.2)) ∧ 1 ≤ Rows.uptoBulk x.1 ∧ t.2.size ≤ Rows.uptoBulk x.1 := by
  obtain ⟨_, hlen, hcell⟩ := World.cells?_some h1
  obtain ⟨xs, k, _, hx, _, hxl, hfs⟩ := DataW.trod_struct Tryz.underlying40 h2
  match cs, hlen with
  | [v0, v1], _ =>
    obtain ⟨y0, y1, rfl⟩ : ∃ y0 y1, xs = [y0, y1] := by
      match xs, hxl with
      | [y0, y1], _ => exact ⟨y0, y1, rfl⟩
    have f0 := hfs 0 _ rfl
    have f1 := hfs 1 _ rfl
    simp [cellsBool] at f0
    simp [cellsStr] at f1
    obtain ⟨m0, e0, _⟩ := DataW.trod_bool Tryz.underlying4 f0
    obtain ⟨m1, e1, rfl, _⟩ := DataW.trod_string Tryz.underlying9 f1
    simp only [List.cons.injEq, and_true] at e0 e1
    subst e0 e1
    have q0 := hcell 0 (by omega)
    have q1 := hcell 1 (by omega)
    rw [Deep.add_add] at q0 q1
    refine ⟨(m0, m1), fun hi => ?_, fun hsp => ?_, ?_, ?_⟩
    · subst hi
      exact World.cell?_spot q0
    · obtain ⟨ab, ao, asp⟩ := a
      simp only at hsp
      subst hsp
      rw [WideShapes.add_plain] at q0 q1
      exact ⟨by simpa using q0, by simpa [Nat.add_assoc] using q1⟩
    · rw [hx]; simp [Rows.uptoBulk]
    · rw [hx]; simp [Rows.uptoBulk, Rows.uptoBulkAll]; omega
/-- Edits that are read. -/
theorem open_edits {H : Type} {enc : TypeId × Value → H} {W : World} {n : Nat} {c : Value} {x : DataW H × List MemPlace} (h : DataW.trod enc Tryz.prog W 0 (fun _ => true) true n 36 [c] = some x) :
    ∃ (a : Option Addr) (S : List (Bool × ByteArray)) (cap : Nat), c = .slice a S.length cap ∧ EA W a S ∧ (a = none → cap = 0) ∧ S.length ≤ Rows.uptoBulk x.1 ∧ ∀ e ∈ S, e.2.size ≤ Rows.uptoBulk x.1 := by
  rcases Deep.open_slice Tryz.underlying36 h with ⟨h0, rfl⟩ | ⟨a, len, cap, m, n', D, Pl, hc, hb, hl, hm, hmm, rfl, hx⟩
  · simp only [List.cons.injEq, and_true] at h0
    exact ⟨none, [], 0, h0, ⟨fun k h => absurd h (Nat.not_lt_zero _)⟩, fun _ => rfl, by simp, fun e he => by cases he⟩
  · simp only [List.cons.injEq, and_true] at hc
    have hlm : len ≤ m := by rw [hmm]; split <;> omega
    rw [cellsEdit] at hx
    obtain ⟨T, hT⟩ := Deep.choose_lt (n := len) (fun i hi => by obtain ⟨cs, q1, q2⟩ := hx i (by omega); exact open_edit q1 q2)
    have hlen : ((List.range len).map T).length = len := by simp
    refine ⟨some a, (List.range len).map T, cap, by rw [hlen]; exact hc, ⟨fun k hk => ?_⟩, (fun e => nomatch e), ?_, fun e he => ?_⟩
    · rw [hlen] at hk
      have et : ((List.range len).map T)[k]'(by rw [hlen]; exact hk) = T k := by simp
      obtain ⟨_, p2, _⟩ := hT k hk
      have hsp := (hT 0 (by omega)).1 rfl
      obtain ⟨ab, ao, asp⟩ := a
      simp only at hsp
      subst hsp
      have p3 := p2 rfl
      refine ⟨ab, ao, rfl, lt_of_cell p3.1, ?_⟩
      rw [et]
      exact p3
    · have := bulk_one D (List.range len) (fun i hi => (hT i (by simpa using hi)).2.2.1)
      rw [hlen]
      simp only [Rows.uptoBulk]
      simp only [List.length_range] at this
      omega
    · obtain ⟨i, hi, rfl⟩ := List.mem_map.1 he
      have h1 : (T i).2.size ≤ Rows.uptoBulk (D i) := (hT i (by simpa using hi)).2.2.2
      have h2 := bulk_mem D (List.range len) i hi
      simp only [Rows.uptoBulk]
      omega
/-- A section that is read. -/
structure SecR where
  s : Sec
  a : Option Addr
  c : Nat
instance : Inhabited SecR := ⟨⟨⟨⟨#[]⟩, ⟨#[]⟩, []⟩, none, 0⟩⟩
set_option maxRecDepth 100000 in
theorem open_sec {H : Type} {enc : TypeId × Value → H} {w : World} {n : Nat} {a : Addr} {i : Nat} {cs : List Value} {x : DataW H × List MemPlace}
    (h1 : w.cells? 0 (a.add (i * 3)) 3 = some cs) (h2 : DataW.trod enc Tryz.prog w 0 (fun _ => true) true n 38 cs = some x) :
    ∃ t : SecR, (i = 0 → a.spot = none) ∧ (a.spot = none → w.cell? ⟨a.block, a.off + i * 3, none⟩ = some (.string t.s.loc) ∧ w.cell? ⟨a.block, a.off + i * 3 + 1, none⟩ = some (.string t.s.par) ∧ w.cell? ⟨a.block, a.off + i * 3 + 2, none⟩ = some (.slice t.a t.s.ed.length t.c)) ∧
      EA w t.a t.s.ed ∧ (t.a = none → t.c = 0) ∧ 4 ≤ Rows.uptoBulk x.1 ∧ t.s.ed.length ≤ Rows.uptoBulk x.1 ∧ ∀ e ∈ t.s.ed, e.2.size ≤ Rows.uptoBulk x.1 := by
  obtain ⟨_, hlen, hcell⟩ := World.cells?_some h1
  obtain ⟨xs, k, _, hx, _, hxl, hfs⟩ := DataW.trod_struct Tryz.underlying38 h2
  match cs, hlen with
  | [v0, v1, v2], _ =>
    obtain ⟨y0, y1, y2, rfl⟩ : ∃ y0 y1 y2, xs = [y0, y1, y2] := by
      match xs, hxl with
      | [y0, y1, y2], _ => exact ⟨y0, y1, y2, rfl⟩
    have f0 := hfs 0 _ rfl
    have f1 := hfs 1 _ rfl
    have f2 := hfs 2 _ rfl
    simp [cellsStr] at f0 f1
    simp [cellsEdits] at f2
    obtain ⟨m0, e0, _⟩ := DataW.trod_string Tryz.underlying9 f0
    obtain ⟨m1, e1, _⟩ := DataW.trod_string Tryz.underlying9 f1
    obtain ⟨ae, ed, ce, e2, hea, hnil, hb1, hb2⟩ := open_edits f2
    simp only [List.cons.injEq, and_true] at e0 e1
    subst e0 e1 e2
    have q0 := hcell 0 (by omega)
    have q1 := hcell 1 (by omega)
    have q2 := hcell 2 (by omega)
    rw [Deep.add_add] at q0 q1 q2
    have hbx : Rows.uptoBulk y2.1 ≤ Rows.uptoBulk x.1 := by rw [hx]; simp [Rows.uptoBulk, Rows.uptoBulkAll]; omega
    refine ⟨⟨⟨m0, m1, ed⟩, ae, ce⟩, fun hi => ?_, fun hsp => ?_, hea, hnil, ?_, Nat.le_trans hb1 hbx, fun e he => Nat.le_trans (hb2 e he) hbx⟩
    · subst hi
      exact World.cell?_spot q0
    · obtain ⟨ab, ao, asp⟩ := a
      simp only at hsp
      subst hsp
      rw [WideShapes.add_plain] at q0 q1 q2
      exact ⟨by simpa using q0, by simpa [Nat.add_assoc] using q1, by simpa [Nat.add_assoc] using q2⟩
    · have b0 := bulk_pos y0.1
      have b1 := bulk_pos y1.1
      have b2 := bulk_pos y2.1
      rw [hx]; simp [Rows.uptoBulk, Rows.uptoBulkAll]; omega
/-- Sections that are read. -/
theorem open_secs {H : Type} {enc : TypeId × Value → H} {W : World} {n : Nat} {c : Value} {x : DataW H × List MemPlace} (h : DataW.trod enc Tryz.prog W 0 (fun _ => true) true n 22 [c] = some x) :
    ∃ (a : Option Addr) (S : List Sec) (cap : Nat), c = .slice a S.length cap ∧ S.length ≤ cap ∧ XB W a S ∧ S.length * 4 ≤ Rows.uptoBulk x.1 ∧ (∀ s ∈ S, s.ed.length ≤ Rows.uptoBulk x.1) ∧ ∀ s ∈ S, ∀ e ∈ s.ed, e.2.size ≤ Rows.uptoBulk x.1 := by
  rcases Deep.open_slice Tryz.underlying22 h with ⟨h0, rfl⟩ | ⟨a, len, cap, m, n', D, Pl, hc, hb, hl, hm, hmm, rfl, hx⟩
  · simp only [List.cons.injEq, and_true] at h0
    exact ⟨none, [], 0, h0, Nat.le_refl _, ⟨fun k h => absurd h (Nat.not_lt_zero _)⟩, by simp, (fun s hs => by cases hs), (fun s hs => by cases hs)⟩
  · simp only [List.cons.injEq, and_true] at hc
    have hlm : len ≤ m := by rw [hmm]; split <;> omega
    rw [cellsSec] at hx
    obtain ⟨T, hT⟩ := Deep.choose_lt (n := len) (fun i hi => by obtain ⟨cs, q1, q2⟩ := hx i (by omega); exact open_sec q1 q2)
    have hlen : ((List.range len).map fun i => (T i).s).length = len := by simp
    refine ⟨some a, (List.range len).map fun i => (T i).s, cap, by rw [hlen]; exact hc, by rw [hlen]; omega, ⟨fun k hk => ?_⟩, ?_, fun s hs => ?_, fun s hs e he => ?_⟩
    · rw [hlen] at hk
      have et : ((List.range len).map fun i => (T i).s)[k]'(by rw [hlen]; exact hk) = (T k).s := by simp
      obtain ⟨_, p2, p4, p5, _⟩ := hT k hk
      have hsp := (hT 0 (by omega)).1 rfl
      obtain ⟨ab, ao, asp⟩ := a
      simp only at hsp
      subst hsp
      have p3 := p2 rfl
      refine ⟨ab, ao, (T k).a, (T k).c, rfl, lt_of_cell p3.1, ?_⟩
      rw [et]
      exact ⟨p3.1, p3.2.1, p3.2.2, p4, p5⟩
    · have := bulk_four D (List.range len) (fun i hi => (hT i (by simpa using hi)).2.2.2.2.1)
      rw [hlen]
      simp only [Rows.uptoBulk]
      simp only [List.length_range] at this
      omega
    · obtain ⟨i, hi, rfl⟩ := List.mem_map.1 hs
      have h1 : (T i).s.ed.length ≤ Rows.uptoBulk (D i) := (hT i (by simpa using hi)).2.2.2.2.2.1
      have h2 := bulk_mem D (List.range len) i hi
      simp only [Rows.uptoBulk]
      omega
    · obtain ⟨i, hi, rfl⟩ := List.mem_map.1 hs
      have h1 : e.2.size ≤ Rows.uptoBulk (D i) := (hT i (by simpa using hi)).2.2.2.2.2.2 e he
      have h2 := bulk_mem D (List.range len) i hi
      simp only [Rows.uptoBulk]
      omega
set_option maxRecDepth 100000 in
theorem open_bundle {H : Type} {enc : TypeId × Value → H} {W : World} {base : Nat} {v : Value} {d : DataW H} {p : List MemPlace} (hv : Value.okWide Tryz.prog W .any base 24 v)
    (h0 : DataW.Trod enc Tryz.prog W 0 (fun _ => true) true 24 v d p) (hk : Rows.uptoSmall H ([d] ++ []) = true) :
    ∃ (a : Option Addr) (S : List Sec) (cap : Nat), v = .agg #[.slice a S.length cap] ∧ S.length ≤ cap ∧ XB W a S ∧ S.length ≤ 1000000 ∧ (∀ s ∈ S, s.ed.length ≤ 1048576) ∧ (∀ s ∈ S, ∀ e ∈ s.ed, e.2.size ≤ 1048576) := by
  obtain ⟨fuel, hf⟩ := h0
  have hcs : ∃ cs, v = .agg cs := by
    simp only [Value.okWide, Tryz.underlying24] at hv
    obtain ⟨cs, h1, _⟩ := hv
    exact ⟨cs, h1⟩
  obtain ⟨cs, rfl⟩ := hcs
  obtain ⟨xs, n, _, hx, hlen, hxl, hfs⟩ := DataW.trod_struct Tryz.underlying24 hf
  rw [cellsBundle] at hlen
  obtain ⟨l⟩ := cs
  match l, hlen with
  | [c0], _ =>
    obtain ⟨z0, rfl⟩ : ∃ z0, xs = [z0] := by
      match xs, hxl with
      | [z0], _ => exact ⟨z0, rfl⟩
    have g0 := hfs 0 _ rfl
    simp [Value.cells, cellsSecs] at g0
    obtain ⟨a, S, cap, e0, hcp, hxb, hb1, hb2, hb3⟩ := open_secs g0
    subst e0
    have hd : d = .agg [z0.1] := by have := congrArg Prod.fst hx; simpa using this
    have hs := of_decide_eq_true hk
    rw [hd] at hs
    simp only [List.append_nil, Rows.uptoBulkAll, Rows.uptoBulk] at hs
    exact ⟨a, S, cap, rfl, hcp, hxb, by omega, fun s h => by have := hb2 s h; omega, fun s h e he => by have := hb3 s h e he; omega⟩
set_option maxRecDepth 100000 in
theorem bundleBack_walk {H : Type} (enc : TypeId × Value → H) (W : World) (base : Nat) (hL : laidMetH Tryz.prog Rows.bundleBackUptoRow.laid W) (hSh : W.ShapedOpen Tryz.prog) (v : Value) (d : DataW H) (p : List MemPlace) (hv : Value.okWide Tryz.prog W .any base 24 v)
    (h0 : DataW.Trod enc Tryz.prog W 0 (fun _ => true) true 24 v d p) (_hlt : ∀ x ∈ p, x.block < W.heap.size) (_hw : ∀ x ∈ d.weights Tryz.prog 24, x ≤ reachBytes) (hk : Rows.uptoSmall H ([d] ++ []) = true) :
    Calls Tryz.prog 3 #[v] W fun e W' => e = .returned (.bool true) ∧ Below W.heap.size W W' := by
  obtain ⟨a, S, cap, rfl, hcp, hxb, hb1, hb2, hb3⟩ := open_bundle hv h0 hk
  have hL0 : laidMet Tryz.prog Rows.bundleBackUptoRow.laid W := hL
  have hD := tab_of (laid_tail hL0)
  have hL4 := laid_tail (laid_tail (laid_tail (laid_tail hL0)))
  obtain ⟨A, hA⟩ := sents5_of (rest := [("caesura/units.sequences", Rows.laid_caesura_units_sequences), ("strconv.ErrRange", Rows.laid_strconv_ErrRange), ("strconv.ErrSyntax", Rows.laid_strconv_ErrSyntax), ("unicode.CaseRanges", Rows.laid_unicode_CaseRanges), ("unicode/utf8.first", Rows.laid_unicode_utf8_first)]) hL4
  have hL9 := laid_tail (laid_tail (laid_tail (laid_tail (laid_tail hL4))))
  have hQ : SeqAt W := seqAt_of hL9
  have hS : Syn W := syn_of (laid_tail (laid_tail hL9))
  exact bundleBack_any A S a cap W hb1 hcp (fun s h => Nat.le_trans (hb2 s h) (by decide)) (fun s h e he => Nat.le_trans (hb3 s h e he) (by decide)) ⟨mx_of hSh, hS, hQ, hD, hA⟩ hxb.xa
set_option maxRecDepth 100000 in
theorem bundleBack_lifted (os : Os) (started : os.Started) (H : Type) (enc : TypeId × Value → H) (F : Stop.Interp) :
    ReturnsInHanded {} Tryz.checked os 3 .any ((Rows.OpenSpec.upto Rows.bundleBackSpec).preRow enc Tryz.prog Tryz.f3 Rows.bundleBackUptoRow.domain false Rows.bundleBackUptoRow.laid) (((Rows.OpenSpec.upto Rows.bundleBackSpec).at F).post enc Tryz.prog Tryz.f3 false true false false) := by
  refine returnsInHanded_of_row (C := Tryz.checked) (s := Rows.OpenSpec.upto Rows.bundleBackSpec) own started (by kernel_rfl) Tryz.func3
    (witness_row_shaped (enc := enc) (C := Tryz.checked) (World.laidAll Tryz.prog os Rows.bundleBackUptoRow.laid) #[.agg #[.slice none 0 0]] (World.laidAll_os _ _ _) (World.shaped_of_ZipB (by kernel_rfl) (by kernel_rfl)) (by kernel_rfl)
      (OpenSpec.preRow_of_cond 8 (x := ([.agg [.nil]], [], [])) (by kernel_rfl) (by kernel_rfl) (fun k hk => by cases hk; kernel_rfl) (by kernel_rfl) (laidMet_laidAll _ (by kernel_rfl) (by kernel_rfl)))) ?_
  intro W base args ds gs before hval hW _ hcond hsz hL hSh _
  exact law_contract rfl rfl rfl (fun _ _ => rfl) (by kernel_rfl) (of_decide_eq_true (by kernel_rfl)) W base args ds gs before hval hW hsz (fun v d p hv h0 hlt hw e1 e2 => bundleBack_walk enc W base hL hSh v d p hv h0 hlt hw (by have := hcond _ rfl; rw [e1, e2] at this; exact this))
theorem bundleBack_said : Rows.BundleBackUptoSaid :=
  OpenClaim.holds_of_cond 3 Tryz.f3 rfl rfl rfl rfl rfl rfl rfl ⟨rfl, rfl, rfl, rfl, rfl⟩ rfl rfl rfl rfl rfl (by kernel_rfl) Tryz.func3 (by kernel_rfl)
    (of_decide_eq_true (by kernel_rfl)) (by unfold Func.isWrapper; first | (rw [if_pos (by decide +kernel)]; kernel_rfl) | (rw [if_neg (by decide +kernel)]; exact ⟨rfl, rfl⟩))
    (fun os started H enc _ F => by rw [OpenClaim.pre_eq_preRow]; exact bundleBack_lifted os started H enc F)
theorem bundleBack_plain (f : FuncId) (fn : Func) (hf : Tryz.pinned.checked.prog.funcNamed "caesura/caesuralaw6.BundleBack" = some f) (hfn : Tryz.pinned.checked.prog.funcs[f]? = some fn) :
    true = Tryz.pinned.checked.prog.looks [] ∧ ∀ (j : Nat) t, fn.params[j]? = some t → Tryz.pinned.checked.prog.wantsStandIn t = false := by
  obtain rfl : f = 3 := Option.some.inj ((show Tryz.prog.funcNamed "caesura/caesuralaw6.BundleBack" = some 3 by kernel_rfl).symm.trans hf) |>.symm
  obtain rfl : fn = Tryz.f3 := (Option.some.inj (Tryz.func3.symm.trans hfn)).symm
  refine ⟨by kernel_rfl, fun j t ht => ?_⟩
  rw [Tryz.params3] at ht
  obtain rfl : t = 24 := by simpa using Array.mem_of_getElem? ht
  exact (show Tryz.prog.wantsStandIn 24 = false by kernel_rfl)
theorem bundleBack_card : Rows.BundleBackUptoCardSaid :=
  Claim7.holds_tied_plain_at .later [] _ _ _ _ bundleBack_said (fun _ h => by cases h) (by kernel_rfl) (fun _ h => by cases h) bundleBackUpto_row_tie rfl ⟨rfl, rfl⟩ (by kernel_rfl) rfl bundleBack_plain (by kernel_rfl)
end Go.Proofs.YtlfeiadgahdgoaaGreatDoor
