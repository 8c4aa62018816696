/-
  LcEW, LdLM, LrRW, LsM, LdLW, LsKW, LoSW, LoAW, LpW, LoM, LpRW, LpM, LeM, LeRM.
-/
import Derived.Test.YtlnejmmhhmmomaaGreatDoorMre
import Derived.Shelf.RegionOpen
import Derived.Sort.QuietTacIn
import Derived.Sort.BigQuietIn
import Derived.Deep.RegionHeld3
namespace Go.Proofs.YtlnejmmhhmmomaaGreatDoor
open Go.RowKit Go.Shelf Go.Lib
def RefChain (base : Nat) (w' : World) (r : CR) (e : Ending) : Prop := match r with
  | .ok l => ∃ v, e = .returned (.tuple #[v, .int .i64 0]) ∧ OwnS w' base v l
  | .bad i => e = .returned (.tuple #[.slice none 0 0, .int .i64 (refNo i)])
theorem firstN_some (f : Nat → Option Nat) (x : Nat) : ∀ (m i : Nat), firstN f i m = some x → ∃ j, f j = some x
  | 0, _, h => by simp [firstN] at h
  | m + 1, i, h => by
    rw [firstN] at h
    cases hx : f i with
    | some y => rw [hx] at h; exact ⟨i, by rw [hx]; exact h⟩
    | none => rw [hx] at h; exact firstN_some f x m (i + 1) h
theorem chkE_lt {L : List Sec} {i : Nat} (h : chkE entE L = some i) : i < 11 := by
  unfold chkE at h
  split at h
  · cases h; decide
  · obtain ⟨j, hj⟩ := firstN_some _ _ _ _ h
    unfold fSec at hj
    split at hj
    · rw [secE_eq] at hj
      split at hj
      · rename_i hp
        cases hj
        exact secP_lt hp
      · obtain ⟨k, hk⟩ := firstN_some _ _ _ _ hj
        unfold fE at hk
        split at hk
        · exact entF_lt hk
        · cases hk
    · cases hj
set_option maxRecDepth 10000 in
set_option maxHeartbeats 3200000 in
theorem refChain_any (L : List Sec) (a : Option Addr) (c : Nat) (t : ByteArray) (w : World) (hl : L.length ≤ 1000000) (hb : ∀ s ∈ L, s.ed.length ≤ 1000000000) (hz : ∀ s ∈ L, ∀ e ∈ s.ed, e.2.size ≤ 4194400) (ha : XA w a L) :
    Calls Tryz.prog 12 #[.agg #[.slice a L.length c], .string t] w fun e w' => RefChain w.heap.size w' (chainF L t) e ∧ Below w.heap.size w w' := by
  obtain ⟨w0, hw0⟩ : ∃ w0, w0 = w.alloc (.cells #[.slice a L.length c] 24) := ⟨_, rfl⟩
  have hB0 : Below w.heap.size w w0 := by rw [hw0]; exact (Below.refl _ _).alloc (Nat.le_refl _) _
  have hX0 : w0.heap[w.heap.size]? = some (.cells #[.slice a L.length c] 24 (0, 0)) := by rw [hw0]; exact heap_alloc_new w _
  have hs0 : w0.heap.size = w.heap.size + 1 := by rw [hw0]; simp
  have HXW : Hid (∀ W, Below w0.heap.size w0 W → W.cell? ⟨w.heap.size, 0, none⟩ = some (.slice a L.length c)) := hid0 (fun W hW => by
    have hr := (hW.block w.heap.size (by omega)).trans hX0
    rw [cell_of_row _ _ _ _ _ _ hr]; rfl)
  have HCk := hid0 (refCheck_any L a c w0 hl hb hz (ha.later hB0))
  have HCa := hid0 (fun W => refCanon_any t W)
  have HPo : Hid (∀ x W, Gd x → Below w0.heap.size w0 W → Calls Tryz.prog 26 #[.agg #[.slice a L.length c], .string x] W fun e w' => e = .returned (.string (parL L x)) ∧ Below W.heap.size W w') := hid0 (fun x W hx hW => refParent_any L a c x W hl (by have := hx.size; omega) ((ha.later hB0).later hW))
  have HB0 := hid0 hB0
  have x0 := HXW.out w0 (Below.refl _ _)
  have hfold := hw0.symm
  have hsz : w.heap.size ≤ w0.heap.size := by omega
  clear hw0 hB0 hX0 hs0 ha hb hz
  obtain ⟨R, hR⟩ : ∃ R, R = chainF L t := ⟨_, rfl⟩
  rw [← hR]
  unfold chainF at hR
  cases hk : chkE entE L with
  | some i =>
    have hne := refNo_ne i (chkE_lt hk)
    rw [hk] at hR HCk
    simp only [numO] at hR HCk
    subst hR
    clear hk HPo HCa
    show Calls _ _ _ _ fun e w' => e = .returned (.tuple #[.slice none 0 0, .int .i64 (refNo i)]) ∧ Below w.heap.size w w'
    generalize refNo i = ri at *
    go_enter Tryz.func12, Tryz.ntmps12
    go_wp2_with (first
      | (go_at_call 24; refine HCk.out.mono ?_; rintro e w1 ⟨rfl, hb1⟩; have HB1 := hid0 (Below.later HB0.out hb1); clear hb1)
      | fail)
    go_returns
    exact ⟨rfl, HB1.out⟩
  | none =>
    have HG := hid0 (fun (x : ByteArray) (hx : Gd x) => gd_par hk hx)
    rw [hk] at hR HCk
    simp only [numO] at hR HCk
    clear hk
    cases hq : tagF t.data.toList with
    | none =>
      rw [hq] at hR HCa
      simp only [canV] at hR HCa
      subst hR
      clear hq HPo HG
      go_enter Tryz.func12, Tryz.ntmps12
      go_wp2_with (first
        | (go_at_call 24; refine HCk.out.mono ?_; rintro e w1 ⟨rfl, hb1⟩; have HB1 := hid0 hb1; clear hb1)
        | (go_at_call 25; refine (HCa.out _).mono ?_; rintro e w2 ⟨rfl, hb2⟩; have HB2 := hid0 (Below.later HB0.out (Below.later HB1.out hb2)); clear hb2)
        | fail)
      go_returns
      exact ⟨rfl, HB2.out⟩
    | some x =>
      rw [hq] at hR HCa
      simp only [canV] at hR HCa
      have HGx := hid0 (gd_tag hq)
      have HR := hid0 hR
      obtain ⟨i0, hi, hz0, hz1, hz2⟩ := info_parts infoStr
      clear hq hR
      generalize strOf x = X at *
      go_enter Tryz.func12, Tryz.ntmps12
      go_wp2_with (first
        | (go_at_call 24; refine HCk.out.mono ?_; rintro e w1 ⟨rfl, hb1⟩; have HB1 := hid0 hb1; clear hb1)
        | (go_at_call 25; refine (HCa.out _).mono ?_; rintro e w2 ⟨rfl, hb2⟩; have HB2 := hid0 (Below.later HB1.out hb2); clear hb2)
        | fail)
      have HO0 : Hid (OwnS (w2.alloc (.cells #[.string X] 9)) w0.heap.size (.slice (some ⟨w2.heap.size, 0, none⟩) 1 1) [X]) := hid0 (by
        have h0 := World.ownsRow_lit (base := w0.heap.size) (e := 9) (size := 1) w2 #[.string X] 1 HB2.out.size (by unfold maxLen; omega) rfl
        simpa [OwnS, cellsS] using h0)
      have HB3 := hid0 (HB2.out.alloc HB2.out.size (.cells #[.string X] 9))
      go_loopw [7, 9, 10] (fun t7 v t10 wr => ∃ (f m : Nat) (ch : List ByteArray) (y : ByteArray), t7 = .string y ∧ t10 = .int .i64 (m : Int) ∧ ch.length = m + 1 ∧ ch.length + f = 18 ∧ m ≤ 15 ∧ Hid (R = chainGo L f ch y) ∧ Hid (Gd y) ∧ Hid (OwnS wr w0.heap.size v ch) ∧ Hid (Below w0.heap.size w0 wr)) (fun _ v _ _ => 17 - lenOf v)
      case atStart => exact ⟨17, 0, [X], X, rfl, rfl, rfl, rfl, by omega, HR, HGx, HO0, HB3⟩
      case round =>
        clear HO0 HB3 HB1 HB2 HR HGx HCk HCa
        obtain ⟨f, m, ch, y, rfl, rfl, hcm, hf, h15, HRr, HGy, HO, HB⟩ := hrel
        obtain ⟨av, cap, rfl, hsa, _⟩ := HO.out.sa
        obtain ⟨f, rfl⟩ : ∃ g, f = g + 1 := ⟨f - 1, by omega⟩
        have z0 := HXW.out wr HB.out
        have hstep := HRr.out
        rw [chainGo] at hstep
        have hm16 : (m : Int) ≤ 16 := by omega
        clear HRr
        cases hy : (y.toList == [114, 111, 111, 116]) with
        | true =>
          rw [hy, if_pos rfl] at hstep
          have HV := hid0 hstep
          clear hstep hcm
          go_wp2
          go_returns
          refine ⟨?_, Below.later HB0.out HB.out⟩
          rw [HV.out]
          exact ⟨_, rfl, HO.out.base' hsz⟩
        | false =>
          rw [hy, if_neg (by simp)] at hstep
          have HPx := hid0 (fun W hW => HPo.out y W HGy.out hW)
          have HGn := hid0 (HG.out y HGy.out)
          generalize parL L y = nx at *
          have HCo := hid0 (fun W (hW : Below wr.heap.size wr W) => stands_any ch av cap nx W (by omega) (hsa.below hW))
          clear hsa
          cases hcn : Lib.containsS ch nx with
          | true =>
            rw [hcn, if_pos rfl] at hstep
            rw [hcn] at HCo
            have HV := hid0 hstep
            clear hstep hcn hcm
            go_wp2_with (first
              | (go_at_call 26; refine (HPx.out _ HB.out).mono ?_; rintro e w3 ⟨rfl, hb3⟩; have HW3 := hid0 hb3; have HB3 := hid0 (Below.later HB.out hb3); clear hb3)
              | (go_at_call 27; refine (HCo.out _ HW3.out).mono ?_; rintro e w4 ⟨rfl, hw4⟩; have hw5 := hw4.symm; subst hw5)
              | fail)
            go_returns
            exact ⟨by rw [HV.out]; rfl, Below.later HB0.out HB3.out⟩
          | false =>
            rw [hcn, if_neg (by simp)] at hstep
            rw [hcn] at HCo
            by_cases h6 : ch.length = 16
            · rw [if_pos h6] at hstep
              have h6I : (16 : Int) ≤ (ch.length : Int) := by omega
              have HV := hid0 hstep
              clear hstep hcn h6 hcm
              go_wp2_with (first
                | (go_at_call 26; refine (HPx.out _ HB.out).mono ?_; rintro e w3 ⟨rfl, hb3⟩; have HW3 := hid0 hb3; have HB3 := hid0 (Below.later HB.out hb3); clear hb3)
                | (go_at_call 27; refine (HCo.out _ HW3.out).mono ?_; rintro e w4 ⟨rfl, hw4⟩; have hw5 := hw4.symm; subst hw5)
                | fail)
              go_returns
              exact ⟨by rw [HV.out]; rfl, Below.later HB0.out HB3.out⟩
            · rw [if_neg h6] at hstep
              have h6I : ¬ (16 : Int) ≤ (ch.length : Int) := by omega
              have HV := hid0 hstep
              have HOW : Hid (∀ W, Below wr.heap.size wr W → OwnS W w0.heap.size (.slice av ch.length cap) ch) := hid0 (fun W hW => HO.out.later' hW)
              have HCM := hid0 hcm
              clear hstep hcn HO hcm
              go_wp2_with (first
                | (go_at_call 26; refine (HPx.out _ HB.out).mono ?_; rintro e w3 ⟨rfl, hb3⟩; have HW3 := hid0 hb3; have HB3 := hid0 (Below.later HB.out hb3); clear hb3)
                | (go_at_call 27; refine (HCo.out _ HW3.out).mono ?_; rintro e w4 ⟨rfl, hw4⟩; have hw5 := hw4.symm; subst hw5)
                | (at_builtin; refine wpList_append_own _ rfl _ _ 28 rfl w0.heap.size 9 i0 (.string ⟨#[]⟩) 1 16 Tryz.underlying28 hi hz0 hz1 hz2 rfl (by decide) _ _ _ rfl (World.ownsRow.alloc (HOW.out _ HW3.out) _) ⟨_, 0, none⟩ 1 1 [.string nx] rfl rfl (cell_one_new _ _ _) ?c2b ?c3b ?c4b ?c5b ?_)
                | fail)
              case c2b => simp [Value.oneCell']
              case c3b => unfold maxLen; omega
              case c4b => omega
              case c5b => have := HB3.out.size; simp; omega
              intro v2 w4 hown' hgrow _
              obtain ⟨g1, g2⟩ := owns_snoc (base := w0.heap.size) (L := ch) (c := nx) (n := ch.length) rfl (HOW.out _ HW3.out) hown' hgrow HB3.out (Nat.le_refl _)
              have HO4 := hid0 g1
              have HB4 := hid0 g2
              obtain ⟨av2, cap2, rfl, _⟩ := g1.sa
              clear hown' hgrow g1 g2 HOW HB3 HW3
              go_wp2
              go_roundw
              case rel => exact ⟨f, m + 1, ch ++ [nx], nx, rfl, by go_num, by have := HCM.out; simp; omega, by simp; omega, by have := HCM.out; omega, HV, HGn, HO4, HB4⟩
              case measure => have := HCM.out; simp [lenOf]; omega
end Go.Proofs.YtlnejmmhhmmomaaGreatDoor
namespace Go.Proofs.YtlnejmmhhmmomaaGreatDoor
open Go.RowKit Go.Shelf Go.Lib
def lstR : CR → List ByteArray
  | .ok l => l
  | .bad _ => []
def errR (A : Nat → Addr) : CR → Value
  | .ok _ => .nilIface
  | .bad i => .iface 185 (.pointer (some (A i)))
def numR : CR → Int
  | .ok _ => 0
  | .bad i => refNo i
theorem goChain_lst {A : Nat → Addr} {base : Nat} {w' : World} {r : CR} {e : Ending} (h : GoChain A base w' r e) : ∃ a cap, e = .returned (.tuple #[.slice a (lstR r).length cap, errR A r]) ∧ SA w' a (lstR r) := by
  cases r with
  | ok l =>
    obtain ⟨v, rfl, ho⟩ := h
    obtain ⟨a, cap, rfl, hs, _⟩ := ho.sa
    exact ⟨a, cap, rfl, hs⟩
  | bad i => exact ⟨none, 0, h, ⟨fun k hk => absurd hk (Nat.not_lt_zero _)⟩⟩
theorem refChain_lst {base : Nat} {w' : World} {r : CR} {e : Ending} (h : RefChain base w' r e) : ∃ a cap, e = .returned (.tuple #[.slice a (lstR r).length cap, .int .i64 (numR r)]) ∧ SA w' a (lstR r) := by
  cases r with
  | ok l =>
    obtain ⟨v, rfl, ho⟩ := h
    obtain ⟨a, cap, rfl, hs, _⟩ := ho.sa
    exact ⟨a, cap, rfl, hs⟩
  | bad i => exact ⟨none, 0, h, ⟨fun k hk => absurd hk (Nat.not_lt_zero _)⟩⟩
theorem chainGo_ok (L : List Sec) : ∀ (f : Nat) (ch : List ByteArray) (last : ByteArray), ch.length ≤ 16 → (∀ i, chainGo L f ch last = .bad i → i < 11) ∧ (lstR (chainGo L f ch last)).length ≤ 16
  | 0, _, _, _ => ⟨fun i h => by simp only [chainGo, CR.bad.injEq] at h; omega, by simp [chainGo, lstR]⟩
  | f + 1, ch, last, hc => by
    rw [chainGo]
    split
    · exact ⟨(fun i h => by cases h), by simpa [lstR] using hc⟩
    · split
      · exact ⟨fun i h => by simp only [CR.bad.injEq] at h; omega, by simp [lstR]⟩
      · split
        · exact ⟨fun i h => by simp only [CR.bad.injEq] at h; omega, by simp [lstR]⟩
        · rename_i hn
          exact chainGo_ok L f _ _ (by rw [List.length_append, List.length_singleton]; omega)
theorem chainF_ok (L : List Sec) (t : ByteArray) : (∀ i, chainF L t = .bad i → i < 11) ∧ (lstR (chainF L t)).length ≤ 16 := by
  unfold chainF
  cases hk : chkE entE L with
  | some i => exact ⟨fun j h => by simp only [CR.bad.injEq] at h; have := chkE_lt hk; omega, by simp [lstR]⟩
  | none =>
    simp only
    cases hq : tagF t.data.toList with
    | none => exact ⟨fun j h => by simp only [CR.bad.injEq] at h; omega, by simp [lstR]⟩
    | some c => exact chainGo_ok L 17 _ _ (by simp)
theorem num_r {w : World} {A : Nat → Addr} (h : Sents w A) (r : CR) (hr : ∀ i, r = .bad i → i < 11) : Calls Tryz.prog 10 #[errR A r] w fun e w' => e = .returned (.int .i64 (numR r)) ∧ w' = w := by
  cases r with
  | ok l => exact kitNum_nil w
  | bad i => exact kitNum_at w A h i (hr i rfl)
def clr (s : Sec) : Sec := ⟨s.loc, ⟨#[]⟩, s.ed⟩
def clrA (x : SecAt) : SecAt := ⟨clr x.s, x.blk, x.cap⟩
theorem cellsX_set (S : List SecAt) : ∀ (k : Nat) (h : k < S.length), (cellsX S).set (k * 3 + 1) (.string ⟨#[]⟩) = cellsX (S.set k (clrA S[k])) := by
  induction S with
  | nil => intro k h; simp at h
  | cons u l ih =>
    intro k h
    have e : cellsX (u :: l) = .string u.s.loc :: .string u.s.par :: .slice (some ⟨u.blk, 0, none⟩) u.s.ed.length u.cap :: cellsX l := rfl
    cases k with
    | zero => rw [e]; rfl
    | succ k =>
      have h2 := ih k (by simpa using h)
      rw [e, show (k + 1) * 3 + 1 = (k * 3 + 1) + 1 + 1 + 1 by omega]
      simp only [List.set_cons_succ, List.getElem_cons_succ]
      rw [h2]
      rfl
theorem pw_set {S : List SecAt} (h : S.Pairwise fun x y => x.blk ≠ y.blk) (k : Nat) (hk : k < S.length) (y : SecAt) (hy : y.blk = S[k].blk) : (S.set k y).Pairwise fun x y => x.blk ≠ y.blk := by
  rw [← List.pairwise_map (f := SecAt.blk) (R := fun x y => x ≠ y)] at h ⊢
  have e : (S.set k y).map SecAt.blk = S.map SecAt.blk := by
    rw [List.map_set, hy]
    exact List.ext_getElem (by simp) (fun i h1 h2 => by rw [List.getElem_set]; split <;> simp_all)
  rw [e]
  exact h
theorem Giv.par {w : World} {lo g n cap m : Nat} {S : List SecAt} (h : Giv w lo (.slice (some ⟨g, 0, none⟩) n cap) S m) (hn : n = S.length + m) (k : Nat) (hk : k < S.length) : Giv (w.setCell ⟨g, k * 3 + 1, none⟩ (.string ⟨#[]⟩)) lo (.slice (some ⟨g, 0, none⟩) n cap) (S.set k (clrA S[k])) m := by
  subst hn
  have hl := cellsX_length S
  have h1 := (World.ownsRow.stored h.row (k * 3 + 1) (.string ⟨#[]⟩)).1
  rw [List.set_append_left _ _ (by omega), cellsX_set S k hk] at h1
  have key : ∀ x ∈ S.set k (clrA S[k]), ∃ y ∈ S, x.blk = y.blk ∧ x.cap = y.cap ∧ x.s.ed = y.s.ed := fun x hx => by
    rcases List.mem_or_eq_of_mem_set hx with h2 | h2
    · exact ⟨x, h2, rfl, rfl, rfl⟩
    · exact ⟨S[k], List.getElem_mem hk, by rw [h2]; rfl, by rw [h2]; rfl, by rw [h2]; rfl⟩
  refine ⟨by rw [List.length_set]; exact h1, fun x hx => ?_, fun x hx => ?_, pw_set h.pw k hk _ rfl⟩
  · obtain ⟨y, hy, e1, e2, e3⟩ := key x hx
    rw [e1, e2, e3]
    exact own_blk (h.ed y hy) (fun q hq => by cases hq; exact Below.heap_setCell w _ _ y.blk (fun e => h.ne y hy (by rw [e]; rfl)))
  · obtain ⟨y, hy, e1, _, _⟩ := key x hx
    rw [e1]
    exact h.ne y hy
theorem Giv.parCell {w : World} {lo g n cap m : Nat} {S : List SecAt} (h : Giv w lo (.slice (some ⟨g, 0, none⟩) n cap) S m) (hn : n = S.length + m) (k : Nat) (hk : k < S.length) : w.cell? ⟨g, k * 3 + 1, none⟩ = some (.string S[k].s.par) ∧ w.frozen? ⟨g, k * 3 + 1, none⟩ = false := by
  subst hn
  have hl := cellsX_length S
  exact ⟨by rw [World.ownsRow.cellAt h.row _ (by omega), List.getElem?_append_left (by omega)]; exact (cellsX_at S k hk).2.1, World.ownsRow.frozenAt h.row _⟩
theorem clr_step (L : List Sec) (k : Nat) (h : k < L.length) (S : List SecAt) (hS : S.map (·.s) = (L.take k).map clr ++ L.drop k) (hk : k < S.length) : (S.set k (clrA S[k])).map (·.s) = (L.take (k + 1)).map clr ++ L.drop (k + 1) := by
  have e1 : S[k].s = L[k] := by
    have h1 : (S.map (·.s))[k]'(by simpa using hk) = S[k].s := by simp
    have h2 : (S.map (·.s))[k]? = some L[k] := by
      rw [hS, List.getElem?_append_right (by simp; omega)]
      simp only [List.length_map, List.length_take]
      rw [show k - min k L.length = 0 by omega, List.getElem?_drop]
      simp [h]
    rw [List.getElem?_eq_getElem (by simpa using hk), Option.some.injEq] at h2
    rw [← h1, h2]
  rw [List.map_set, hS, show (clrA S[k]).s = clr L[k] by rw [← e1]; rfl, List.set_append_right _ _ (by simp; omega)]
  simp only [List.length_map, List.length_take]
  rw [show k - min k L.length = 0 by omega, List.drop_eq_getElem_cons h, List.set_cons_zero, List.take_succ_eq_append_getElem h, List.map_append, List.append_assoc]
  rfl
end Go.Proofs.YtlnejmmhhmmomaaGreatDoor
namespace Go.Proofs.YtlnejmmhhmmomaaGreatDoor
open Go.RowKit Go.Shelf Go.Lib Go.Maps Go.Sort
attribute [local go_sem] Oper.semAt_some
/-- The edits of a locale's section. -/
def edOf (L : List Sec) (x : ByteArray) : List (Bool × ByteArray) := match secOf L x with
  | some s => s.ed
  | none => []
/-- The edits along a chain, the root's first. -/
def edsF (L : List Sec) (c : List ByteArray) : List (Bool × ByteArray) := c.reverse.flatMap (edOf L)
/-- What Resolve answers. -/
def GoResolve (A : Nat → Addr) (base : Nat) (w' : World) (L : List Sec) (t : ByteArray) (e : Ending) : Prop := match chainF L t with
  | .bad i => e = .returned (.tuple #[.slice none 0 0, .iface 185 (.pointer (some (A i)))])
  | .ok c => ∃ v l, OwnS w' base v l ∧ Rising l ∧ (∀ x, x ∈ l ↔ lastE (edsF L c) x = some true) ∧
      e = .returned (if 2000 < l.length then .tuple #[.slice none 0 0, .iface 185 (.pointer (some (A 2)))] else .tuple #[v, .nilIface])
theorem secIs_ed {w : World} {L : List Sec} {x : ByteArray} {v : Value} (h : SecIs w (secOf L x) v) : ∃ lo pa ae ce, v = .agg #[.string lo, .string pa, .slice ae (edOf L x).length ce] ∧ EA w ae (edOf L x) := by
  unfold edOf
  cases hq : secOf L x with
  | none =>
    rw [hq] at h
    exact ⟨_, _, none, 0, h, ⟨fun k hk => absurd hk (Nat.not_lt_zero _)⟩⟩
  | some s =>
    rw [hq] at h
    obtain ⟨ae, ce, hv, hea⟩ := h
    exact ⟨_, _, ae, ce, hv, hea⟩
theorem edOf_le {L : List Sec} {x : ByteArray} {n : Nat} (h : ∀ s ∈ L, s.ed.length ≤ n) : (edOf L x).length ≤ n := by
  unfold edOf
  split
  · rename_i s hs
    exact h s (List.mem_of_find?_eq_some hs)
  · simp
theorem edOf_sz {L : List Sec} {x : ByteArray} {n : Nat} (h : ∀ s ∈ L, ∀ e ∈ s.ed, e.2.size ≤ n) : ∀ e ∈ edOf L x, e.2.size ≤ n := by
  unfold edOf
  split
  · rename_i s hs
    exact h s (List.mem_of_find?_eq_some hs)
  · intro e he; cases he
/-- What the range keeps. -/
def ResI (L : List Sec) (w0 : World) (Bm R : Nat) (pre : List (Nat × ByteArray)) (W : World) : Prop :=
  MapIs W Bm (pre.length * 1000000000) ((pre.map (·.2)).flatMap (edOf L)) ∧ Below w0.heap.size w0 W ∧ W.heap[Bm + 1]? = some (.cells #[.map (some Bm)] 48 (0, 0)) ∧ R ≤ W.heap.size
theorem resI_own (L : List Sec) (w0 : World) (Bm R : Nat) (h0 : w0.heap.size ≤ R) (hR : Bm + 2 ≤ R) : OwnFrom R (ResI L w0 Bm R) := fun pre W W' row ⟨⟨D, hD, hs⟩, hb, hv, hz⟩ hg hr => by
  have hlow : ∀ k, k < R → row ≠ some k := fun k hk e => by have := (hr k e).1; omega
  refine ⟨⟨D, hD.kept hg (fun e => hlow Bm (by omega) e.symm), hs⟩, ⟨hg.os.trans hb.os, hg.tape.trans hb.tape, hg.output.trans hb.output, Nat.le_trans hb.size hg.size, fun k hk => (hg.block k (by omega) (fun e => hlow k (by omega) e.symm)).trans (hb.block k hk)⟩, (hg.block (Bm + 1) (by omega) (fun e => hlow (Bm + 1) (by omega) e.symm)).trans hv, Nat.le_trans hz hg.size⟩
theorem MapIs.below {W W' : World} {B n : Nat} {eds : List (Bool × ByteArray)} (h : MapIs W B n eds) (hb : Below W.heap.size W W') : MapIs W' B n eds := by
  obtain ⟨D, hD, hs⟩ := h
  exact ⟨D, hD.kept (row := none) ⟨hb.os, hb.tape, hb.output, hb.size, fun k hk _ => hb.block k hk⟩ (by simp), hs⟩
theorem kc_putObj (W : World) (l : Nat) (o o' : Obj) (hl : W.heap[l]? = some o) (hc : o.isCells = false) : KC W (W.putObj l o') := by
  refine ⟨fun i c t z hi => ?_, by simp [World.putObj]⟩
  have hne : i ≠ l := fun e => by
    subst e
    rw [hi] at hl
    cases hl
    simp [Obj.isCells] at hc
  simp only [World.putObj]
  rw [Array.getElem?_setIfInBounds_ne (fun e => hne e.symm)]
  exact hi
theorem chainGo_pos (L : List Sec) : ∀ (f : Nat) (ch : List ByteArray) (last : ByteArray) (cc : List ByteArray), 0 < ch.length → chainGo L f ch last = .ok cc → 0 < cc.length
  | 0, _, _, _, _, h => by simp [chainGo] at h
  | f + 1, ch, last, cc, hc, h => by
    rw [chainGo] at h
    split at h
    · cases h; exact hc
    · split at h
      · cases h
      · split at h
        · cases h
        · exact chainGo_pos L f _ _ cc (by simp) h
theorem chainF_len (L : List Sec) (t : ByteArray) : ∀ cc, chainF L t = .ok cc → cc.length ≤ 16 ∧ 0 < cc.length := fun cc h => by
  have h1 := (chainF_ok L t).2
  rw [h] at h1
  refine ⟨h1, ?_⟩
  unfold chainF at h
  cases hk : chkE entE L with
  | some i => rw [hk] at h; cases h
  | none =>
    rw [hk] at h
    simp only at h
    cases hq : tagF t.data.toList with
    | none => rw [hq] at h; cases h
    | some c =>
      rw [hq] at h
      exact chainGo_pos L 17 _ _ cc (by simp) h
theorem own_put {W : World} {lo t s n D : Nat} {v : Value} {xs : List Value} {o o' : Obj} (h : W.ownsRow lo t s v n xs) (hD : W.heap[D]? = some o) (hc : o.isCells = false) : (W.putObj D o').ownsRow lo t s v n xs := by
  refine ⟨h.1, ?_⟩
  rcases h.2 with h2 | ⟨g, cap, cur0, hv, hg, hr, r⟩
  · exact .inl h2
  · refine .inr ⟨g, cap, cur0, hv, hg, ?_, r⟩
    rw [World.putObj_heap_other (fun e => by subst e; rw [hr] at hD; cases hD; simp [Obj.isCells] at hc)]
    exact hr
theorem below_put {B D : Nat} {w W : World} (h : Below B w W) (o : Obj) (hD : B ≤ D) : Below B w (W.putObj D o) := ⟨h.os, h.tape, h.output, by rw [World.putObj_size]; exact h.size, fun k hk => by rw [World.putObj_heap_other (by omega)]; exact h.block k hk⟩
theorem eds_of {L : List Sec} {ys : List (Nat × ByteArray)} {cc : List ByteArray} (h : ys.map (·.2) = cc.reverse) : (ys.map (·.2)).flatMap (edOf L) = edsF L cc := by rw [h]; rfl
theorem res_step (L : List Sec) (w0 : World) (Bm R : Nat) (pre : List (Nat × ByteArray)) (x : Nat × ByteArray) (W w2 w3 : World) (hI : ResI L w0 Bm R pre W) (hB0 : w0.heap.size ≤ Bm) (hR : Bm + 2 ≤ R) (hb2 : Below W.heap.size W w2) (hg3 : w2.grownBy w3 (some Bm))
    (hm3 : MapIs w3 Bm (pre.length * 1000000000 + (edOf L x.2).length) ((pre.map (·.2)).flatMap (edOf L) ++ edOf L x.2)) (hed : (edOf L x.2).length ≤ 1000000000) : KeepsFrom R W w3 ∧ KC W w3 ∧ ResI L w0 Bm R (pre ++ [x]) w3 := by
  obtain ⟨⟨D, ⟨es, clock, hb, _⟩, _⟩, hbw, hv, hz⟩ := hI
  have hs2 := hb2.size
  have hs3 := hg3.size
  have key : ∀ k, k < W.heap.size → k ≠ Bm → w3.heap[k]? = W.heap[k]? := fun k hk hne => (hg3.block k (by omega) (fun e => hne (by injection e))).trans (hb2.block k hk)
  refine ⟨⟨by omega, fun k o hk ho _ => (key k (Array.getElem?_eq_some_iff.1 ho).1 (by omega)).trans ho⟩, ⟨fun i c t z hi => (key i (Array.getElem?_eq_some_iff.1 hi).1 (fun e => by subst e; rw [hb] at hi; cases hi)).trans hi, by omega⟩, ?_, ?_, ?_, by omega⟩
  · obtain ⟨D', hD', hs'⟩ := hm3
    refine ⟨D', hD'.mono (by rw [List.length_append, List.length_singleton]; omega), ?_⟩
    rw [List.map_append, List.flatMap_append]
    simpa using hs'
  · exact ⟨(hg3.os.trans hb2.os).trans hbw.os, (hg3.tape.trans hb2.tape).trans hbw.tape, (hg3.output.trans hb2.output).trans hbw.output, by have := hbw.size; omega, fun k hk => (key k (by have := hbw.size; omega) (by omega)).trans (hbw.block k hk)⟩
  · exact (key (Bm + 1) (Array.getElem?_eq_some_iff.1 hv).1 (by omega)).trans hv
set_option maxRecDepth 100000 in
set_option maxHeartbeats 2000000 in
theorem resolve_any (A : Nat → Addr) (L : List Sec) (a : Option Addr) (c : Nat) (t : ByteArray) (w : World) (hl : L.length ≤ 1000000) (hc : L.length ≤ c) (hb : ∀ s ∈ L, s.ed.length ≤ 1000000000) (hz : ∀ s ∈ L, ∀ e ∈ s.ed, e.2.size ≤ 140737488355328) (hm : Mx w) (hT : Tb w) (hQ : SeqAt w) (he : Sents w A) (ha : XA w a L) :
    Calls Tryz.prog 6 #[.agg #[.slice a L.length c], .string t] w fun e w' => GoResolve A w.heap.size w' L t e ∧ Below w.heap.size w w' := by
  obtain ⟨w0, hw0⟩ : ∃ w0, w0 = w.alloc (.cells #[.slice a L.length c] 24) := ⟨_, rfl⟩
  have hB0 : Below w.heap.size w w0 := by rw [hw0]; exact (Below.refl _ _).alloc (Nat.le_refl _) _
  have hX0 : w0.heap[w.heap.size]? = some (.cells #[.slice a L.length c] 24 (0, 0)) := by rw [hw0]; exact heap_alloc_new w _
  have hs0 : w0.heap.size = w.heap.size + 1 := by rw [hw0]; simp
  have x0 : w0.cell? ⟨w.heap.size, 0, none⟩ = some (.slice a L.length c) := by rw [cell_of_row _ _ _ _ _ _ hX0]; rfl
  have HCh := hid0 (chain_any A L a c t w0 hc (fun s hs => Nat.le_trans (hb s hs) (by decide)) hz (hm.below hB0) (hT.below hB0) (hQ.later hB0) (he.below hB0) (ha.later hB0))
  have HE : Hid (∀ W, Below w0.heap.size w0 W → Sents W A) := hid0 (fun W hW => (he.below hB0).below hW)
  have HXA : Hid (∀ W, Below w0.heap.size w0 W → XA W a L) := hid0 (fun W hW => (ha.later hB0).later hW)
  have HX0 := hid0 hX0
  have HB0 := hid0 hB0
  have HS0 := hid0 hs0
  have HBD := hid0 hb
  have HZD := hid0 hz
  have hfold := hw0.symm
  clear hw0 hB0 hX0 hs0 hm hT hQ he ha hb hz
  unfold GoResolve
  have HLn := hid0 (chainF_len L t)
  cases hr : chainF L t with
  | bad i =>
    rw [hr] at HCh
    simp only [GoChain] at HCh
    clear hr HLn
    go_enter Tryz.func6, Tryz.ntmps6
    go_wp2_with (go_at_call 13; refine HCh.out.mono ?_; rintro e w1 ⟨rfl, hb1⟩; have HB1 := hid0 (Below.later HB0.out hb1); clear hb1)
    go_returns
    exact ⟨rfl, HB1.out⟩
  | ok cc =>
    rw [hr] at HCh
    simp only [GoChain] at HCh
    obtain ⟨hcl, hcp⟩ := HLn.out cc hr
    clear hr HLn
    refine (callsIn_wide (n := 8)).1 ?_
    refine callsIn_of_wp_marks Tryz.func6 rfl trivial ?_ rfl
    simp only [Tryz.ntmps6, List.size_toArray, List.length_cons, List.length_nil, Nat.reduceAdd, Nat.reduceSub, Array.replicate_succ, Array.replicate_zero, List.push_toArray, List.append_toArray, List.nil_append, List.cons_append]
    have hmm := @run_makeMap Tryz.prog
    gi_wp2_with (first
      | (refine ⟨trivial, ?_⟩; gi_at_call 13; refine (callsIn_wide.2 HCh.out).mono ?_; rintro e w1 ⟨⟨v, rfl, ho⟩, hb1⟩; obtain ⟨gC, kC, rfl, hg1, hg2, hg3⟩ := own_form ho hcp; have HO1 := hid0 ho; have HB1 := hid0 hb1; clear ho hb1 hg1 hg2 hg3)
      | (refine ⟨trivial, ?_⟩; gi_at_call 15; refine (back_in _ _ ⟨_, _, _, rfl⟩ _).mono ?_; rintro e w' ⟨rfl, rfl⟩)
      | fail)
    obtain ⟨wR, hwR⟩ : ∃ wR, wR = ((w1.alloc (.map #[] 0)).alloc (.cells #[.map (some w1.heap.size)] 48)).alloc (.cells #[.slice (some ⟨gC, 0, none⟩) cc.length kC] 28) := ⟨_, rfl⟩
    obtain ⟨cur, hgC, hcur⟩ : ∃ cur, w1.heap[gC]? = some (.cells cur 9 (0, 0)) ∧ ∀ k (h : k < cc.length), cur[k]? = some (.string cc[k]) := by
      rcases HO1.out.2 with ⟨hv, _⟩ | ⟨g', cap', cur, hv, _, hb', hc1, _, _, h4⟩
      · cases hv
      · cases hv
        refine ⟨cur, hb', fun k hk => ?_⟩
        have h5 : (cur.toList.take (cc.length * 1))[k]? = (cellsS cc)[k]? := by rw [h4]
        rw [List.getElem?_take_of_lt (by omega), Array.getElem?_toList] at h5
        rw [h5]
        simp [cellsS, hk]
    have hbR : Below w1.heap.size w1 wR := by rw [hwR]; exact (((Below.refl _ _).alloc (Nat.le_refl _) _).alloc (by simp) _).alloc (by simp; omega) _
    have hsR : wR.heap.size = w1.heap.size + 3 := by rw [hwR]; simp
    have hmR : wR.ownsMap Tryz.prog 9 outElem w1.heap.size 0 (.map []) := by rw [hwR]; exact ((World.ownsMap_made w1 _ _ _).alloc _).alloc _
    have hvR : wR.heap[w1.heap.size + 1]? = some (.cells #[.map (some w1.heap.size)] 48 (0, 0)) := by
      rw [hwR]
      have h := heap_alloc_new (w1.alloc (.map #[] 0)) (.cells #[.map (some w1.heap.size)] 48)
      rw [show (w1.alloc (.map #[] 0)).heap.size = w1.heap.size + 1 by simp] at h
      exact (Below.heap_alloc _ _ _ (by simp)).trans h
    have hnR : wR.heap[w1.heap.size + 1 + 1]? = some (.cells #[.slice (some ⟨gC, 0, none⟩) cc.length kC] 28 (0, 0)) := by
      rw [hwR]
      have h := heap_alloc_new ((w1.alloc (.map #[] 0)).alloc (.cells #[.map (some w1.heap.size)] 48)) (.cells #[.slice (some ⟨gC, 0, none⟩) cc.length kC] 28)
      rw [show ((w1.alloc (.map #[] 0)).alloc (.cells #[.map (some w1.heap.size)] 48)).heap.size = w1.heap.size + 1 + 1 by simp] at h
      exact h
    rw [← hwR]
    have hs0 := HS0.out
    have hs1 := HB1.out.size
    have hgR : wR.heap[gC]? = some (.cells cur 9 (0, 0)) := (hbR.block gC (Array.getElem?_eq_some_iff.1 hgC).1).trans hgC
    have HB1R := hid0 (Below.later HB1.out hbR)
    clear hwR hgC HO1 hfold x0 HCh
    refine wpIn_rangeFunc_ownH rfl (by omega) (gf := 33) (lb := #[.pointer (some ⟨w1.heap.size + 1 + 1, 0, none⟩)]) rfl trivial (enters_of Tryz.func33 (by kernel_rfl) rfl)
      (back_stops 7 (by omega) (w1.heap.size + 1 + 1) gC kC cc cur (by omega) wR hnR hgR hcur) KC.trans (fun W l o o' _ ho hc _ => kc_putObj W l o o' ho hc) (Below.refl _ _) (fun _ => rfl)
      (ResI L w0 w1.heap.size wR.heap.size) (fun _ _ _ => False) (resI_own L w0 w1.heap.size wR.heap.size (by omega) (by omega)) (fun _ _ _ _ _ hs _ _ => hs)
      ⟨⟨_, hmR, says_nil⟩, HB1R.out, hvR, Nat.le_refl _⟩
      (fun x a' _ => a' = { tmps := #[.agg #[.slice a L.length c], .string t, .pointer (some ⟨w.heap.size, 0, none⟩), undef, .slice none 0 0, .nilIface, .slice (some ⟨gC, 0, none⟩) cc.length kC, .nilIface, .pointer (some ⟨w1.heap.size + 1, 0, none⟩), undef, .string x.2, undef, .tuple #[.slice (some ⟨gC, 0, none⟩) cc.length kC, .nilIface], .agg #[.slice a L.length c], .string t, .tuple #[.slice (some ⟨gC, 0, none⟩) cc.length kC, .nilIface], .slice (some ⟨gC, 0, none⟩) cc.length kC, .nilIface, .nilIface, .bool false, undef, .map (some w1.heap.size), .slice (some ⟨gC, 0, none⟩) cc.length kC, .func (.func 33) #[] #[.pointer (some ⟨w1.heap.size + 1 + 1, 0, none⟩)], .int .i64 ((x.1 : Nat) : Int), .string x.2, undef, undef, undef, undef, undef, undef, undef, undef, undef, undef, undef, undef, undef], defers := [] })
      (fun x a' _ _ _ _ h _ _ => h) ?assign ?body ?done ?stop
    case assign =>
      rintro l pre x W K hI hK
      gi_wp2
      exact hK _ _ (KeepsFrom.refl _ _) (KC.refl _) hI rfl
    case body =>
      rintro l pre x a' W hl' ⟨r, hr⟩ hI rfl hlt
      have HI := hid0 hI
      obtain ⟨hM, hBW, hvW, hzW⟩ := hI
      have y0 : W.cell? ⟨w.heap.size, 0, none⟩ = some (.slice a L.length c) := by rw [cell_of_row _ _ _ _ _ _ ((hBW.block _ (by omega)).trans HX0.out)]; rfl
      have y1 : W.cell? ⟨w1.heap.size + 1, 0, none⟩ = some (.map (some w1.heap.size)) := by rw [cell_of_row _ _ _ _ _ _ hvW]; rfl
      have HSc := hid0 (sectionOf_any L a c x.2 W.drew hl (HXA.out W.drew hBW.drew))
      have hfd : ∀ (W : World) (p q : ByteArray) (z : Value), (Instr.field 40 (.agg #[.string p, .string q, z]) 2).run Tryz.prog W = .ok z W := fun W p q z => by kernel_rfl
      have HM := hid0 hM
      clear hM
      have HEd := hid0 (edOf_le (x := x.2) HBD.out)
      have HEz := hid0 (edOf_sz (x := x.2) HZD.out)
      have HTk : Hid (∀ W2 ae ce, MapIs W2 w1.heap.size (pre.length * 1000000000) ((pre.map (·.2)).flatMap (edOf L)) → EA W2 ae (edOf L x.2) → Calls Tryz.prog 16 #[.map (some w1.heap.size), .slice ae (edOf L x.2).length ce] W2 fun e w' => (∃ v, e = .returned v) ∧ MapIs w' w1.heap.size (pre.length * 1000000000 + (edOf L x.2).length) ((pre.map (·.2)).flatMap (edOf L) ++ edOf L x.2) ∧ W2.grownBy w' (some w1.heap.size)) := hid0 (fun W2 ae ce hm2 hea => take_any (edOf L x.2) ((pre.map (·.2)).flatMap (edOf L)) ae ce w1.heap.size _ W2 HEd.out (by omega) HEz.out hea hm2)
      have hmx : Tryz.prog.follows .mixedOrders = true := by kernel_rfl
      have hf1 : Fence.wide.fn 17 := trivial
      have hf2 : Fence.wide.fn 16 := trivial
      gi_wp2
      gi_region_with_o (first
        | (gi_at_call 17; go_loud ((
            refine (CallsIn.inRound l (callsIn_wide.2 HSc.out)).mono ?_
            rintro e w2 ⟨⟨v, rfl, hsi⟩, hb2⟩
            obtain ⟨lo, pa, ae, ce, rfl, hea⟩ := secIs_ed hsi
            have y2 : w2.cell? ⟨w1.heap.size + 1, 0, none⟩ = some (.map (some w1.heap.size)) := (hb2.cell (World.block_lt_of_cell? W _ y1)).trans y1
            have HB2 := hid0 hb2
            have HEA := hid0 (hea.later hb2)
            have HM2 := hid0 (MapIs.below (W := W.drew) HM.out hb2)
            clear hb2 hsi hea)))
        | (gi_at_call 16; refine (CallsIn.inRound l (callsIn_wide.2 (HTk.out w2 ae ce HM2.out HEA.out))).mono ?_; rintro e w3 ⟨⟨v3, rfl⟩, hm3, hg3⟩; have HM3 := hid0 hm3; have HG3 := hid0 hg3; clear hm3 hg3)
        | fail)
      all_goals
        gi_wp2
        exact res_step L w0 w1.heap.size wR.heap.size pre x W w2 w3 HI.out (by omega) (by omega) ⟨HB2.out.os, HB2.out.tape, HB2.out.output, HB2.out.size, HB2.out.block⟩ HG3.out HM3.out HEd.out
    case done =>
      rintro D ys W hD hS ⟨hM, hBW, hvW, hzW⟩ hK
      have y1 : W.cell? ⟨w1.heap.size + 1, 0, none⟩ = some (.map (some w1.heap.size)) := by rw [cell_of_row _ _ _ _ _ _ hvW]; rfl
      have HSe := HE.out W hBW
      have hyl : ys.length ≤ 16 := by have h := congrArg List.length hS; simp at h; omega
      have HN := hid0 (entries_any sortS _ w1.heap.size _ W (by omega) (by omega) hM)
      have HKD2 : Hid (∀ W2, Below W.heap.size W W2 → W2.heap[D]? = some (.deferred (some []))) := hid0 (fun W2 h2 => (h2.block D (Array.getElem?_eq_some_iff.1 hK).1).trans hK)
      have HBW := hid0 hBW
      have hww : w.heap.size ≤ W.heap.size := by have := hBW.size; omega
      have hwD : w.heap.size ≤ D := by omega
      have HYG : Hid (∀ W2, Below W.heap.size W W2 → W2.cell? ⟨0, 0, none⟩ = some (.iface 185 (.pointer (some (A 2))))) := hid0 (fun W2 h2 => (HSe.below h2).c2)
      have HSS := hid0 hS
      clear hM hvW hK hBW hS
      gi_wp2_with (first
        | (refine ⟨trivial, ?_⟩; gi_at_call 18; refine (callsIn_wide.2 HN.out).mono ?_; rintro e w2 ⟨⟨v, lr, rfl, ho, hri, hmem⟩, hb2⟩; obtain ⟨aR, cR, rfl, hsa, hsc⟩ := ho.sa; have HO := hid0 ho; have HRi := hid0 hri; have HMe := hid0 hmem; have HB2 := hid0 hb2; have y3 := HYG.out w2 hb2; clear ho hri hmem hb2 hsa hsc)
        | fail)
      · have h2000 : 2000 < lr.length := by omega
        have hmx : Tryz.prog.follows .mixedOrders = true := by kernel_rfl
        gi_quiet ((fail))
        gi_wp2
        have hB3 : Below W.heap.size W (w2.drewN nq) := ⟨HB2.out.os, HB2.out.tape, HB2.out.output, HB2.out.size, HB2.out.block⟩
        refine ⟨by simp, .inl ⟨_, _, rfl, run_takeDeferred (HKD2.out _ hB3), ?_⟩⟩
        refine ⟨.tuple #[.slice none 0 0, .iface 185 (.pointer (some (A 2)))], by simp [results, Tryz.results6, go_sem], ⟨.slice aR lr.length cR, lr, own_put (W := w2.drewN nq) (owns_lower HO.out hww) (HKD2.out _ hB3) rfl, HRi.out, ?_, ?_⟩, below_put (Below.later (Below.later HB0.out HBW.out) hB3) _ hwD⟩
        · rw [← eds_of HSS.out]; exact HMe.out
        · rw [if_pos h2000]
      · have h2000 : ¬ 2000 < lr.length := by omega
        refine ⟨by simp, .inl ⟨_, _, rfl, run_takeDeferred (HKD2.out w2 HB2.out), ?_⟩⟩
        refine ⟨.tuple #[.slice aR lr.length cR, .nilIface], by simp [results, Tryz.results6, go_sem], ⟨.slice aR lr.length cR, lr, own_put (owns_lower HO.out hww) (HKD2.out w2 HB2.out) rfl, HRi.out, ?_, ?_⟩, below_put (Below.later (Below.later HB0.out HBW.out) HB2.out) _ hwD⟩
        · rw [← eds_of HSS.out]; exact HMe.out
        · rw [if_neg h2000]
    case stop =>
      rintro D c pre W _ _ h _
      exact h.elim
end Go.Proofs.YtlnejmmhhmmomaaGreatDoor
namespace Go.Proofs.YtlnejmmhhmmomaaGreatDoor
open Go.RowKit Go.Shelf Go.Lib Go.Maps Go.Sort
def mrB : ByteArray := ⟨#[77, 114, 46]⟩
def egB : ByteArray := ⟨#[101, 46, 103, 46]⟩
def enB : ByteArray := ⟨#[101, 110]⟩
def frB : ByteArray := ⟨#[102, 114]⟩
def noB : ByteArray := ⟨#[]⟩
def usB : ByteArray := ⟨#[101, 110, 95, 85, 83]⟩
def kB : List Sec := [⟨rootB, noB, [(true, mrB), (true, egB)]⟩, ⟨enB, noB, [(false, egB)]⟩]
theorem tag1 : tagF [69, 78, 45, 117, 115] = some [101, 110, 95, 85, 83] := by decide
theorem tag2 : tagF [101, 110, 45, 117, 115] = some [101, 110, 95, 85, 83] := by decide
theorem tag3 : tagF [102, 114] = some [102, 114] := by decide
theorem ent1 : entE mrB = none := by decide
theorem ent2 : entE egB = none := by decide
theorem root_t : rootB.toList = [114, 111, 111, 116] := by rw [ByteArray.toList_eq]; rfl
theorem en_t : enB.toList = [101, 110] := by rw [ByteArray.toList_eq]; rfl
theorem fr_t : frB.toList = [102, 114] := by rw [ByteArray.toList_eq]; rfl
theorem us_t : usB.toList = [101, 110, 95, 85, 83] := by rw [ByteArray.toList_eq]; rfl
theorem no_t : noB.toList = [] := by rw [ByteArray.toList_eq]; rfl
theorem tagR : isTagB rootB = true := by decide
theorem tagE : isTagB enB = true := by decide
theorem rne : ¬ rootB = enB := by decide
theorem chk_k : chkE entE kB = none := by
  simp [chkE, kB, nEd, firstN, fSec, secE, hasL, root_t, en_t, no_t, tagR, tagE, ent1, ent2, rne, fE]
theorem sec_us : secOf kB usB = none := by decide
theorem sec_en : secOf kB enB = some ⟨enB, noB, [(false, egB)]⟩ := by rfl
theorem sec_fr : secOf kB frB = none := by decide
theorem cut_us : cutB usB = enB := by decide
theorem cut_en : cutB enB = rootB := by decide
theorem cut_fr : cutB frB = rootB := by decide
theorem par_us : parL kB usB = enB := by rw [parL, sec_us]; exact cut_us
theorem par_en : parL kB enB = rootB := by rw [parL, sec_en]; simp [no_t, cut_en]
theorem par_fr : parL kB frB = rootB := by rw [parL, sec_fr]; exact cut_fr
theorem con1 : Lib.containsS [usB] enB = false := by decide
theorem con2 : Lib.containsS [usB, enB] rootB = false := by decide
theorem con3 : Lib.containsS [frB] rootB = false := by decide
theorem chain_us (t : ByteArray) (h : tagF t.data.toList = some [101, 110, 95, 85, 83]) : chainF kB t = .ok [usB, enB, rootB] := by
  unfold chainF
  rw [chk_k, h]
  show chainGo kB 17 [usB] usB = _
  simp [chainGo, us_t, en_t, root_t, par_us, par_en, con1, con2]
theorem chain_fr (t : ByteArray) (h : tagF t.data.toList = some [102, 114]) : chainF kB t = .ok [frB, rootB] := by
  unfold chainF
  rw [chk_k, h]
  show chainGo kB 17 [frB] frB = _
  simp [chainGo, fr_t, root_t, par_fr, con3]
theorem sec_root : secOf kB rootB = some ⟨rootB, noB, [(true, mrB), (true, egB)]⟩ := by rfl
theorem eds_us : edsF kB [usB, enB, rootB] = [(true, mrB), (true, egB), (false, egB)] := by
  simp [edsF, edOf, sec_us, sec_en, sec_root]
theorem eds_fr : edsF kB [frB, rootB] = [(true, mrB), (true, egB)] := by
  simp [edsF, edOf, sec_fr, sec_root]
theorem mne : ¬ mrB = egB := by decide
theorem last_us (x : ByteArray) : lastE [(true, mrB), (true, egB), (false, egB)] x = some true ↔ x = mrB := by
  unfold lastE
  simp only [List.foldl_cons, List.foldl_nil]
  by_cases h1 : egB = x
  · subst h1
    have h3 : ¬ egB = mrB := fun e => mne e.symm
    simp [h3]
  · by_cases h2 : mrB = x
    · simp [h1, h2]
    · have h3 : ¬ x = mrB := fun e => h2 e.symm
      simp [h1, h2, h3]
theorem last_fr (x : ByteArray) : lastE [(true, mrB), (true, egB)] x = some true ↔ x = mrB ∨ x = egB := by
  unfold lastE
  simp only [List.foldl_cons, List.foldl_nil]
  by_cases h1 : egB = x
  · subst h1; simp
  · by_cases h2 : mrB = x
    · simp [h1, h2]
    · have h3 : ¬ x = mrB := fun e => h2 e.symm
      have h4 : ¬ x = egB := fun e => h1 e.symm
      simp [h1, h2, h3, h4]
theorem rising_nodup {l : List ByteArray} (h : Rising l) : l.Nodup := h.imp (fun {x y} hlt e => by subst e; exact absurd hlt (List.lt_irrefl _))
theorem rising_one {l : List ByteArray} {a : ByteArray} (h : Rising l) (hm : ∀ x, x ∈ l ↔ x = a) : l = [a] := by
  have hn := rising_nodup h
  have hp : l.Perm [a] := (List.perm_ext_iff_of_nodup hn (by simp)).2 (fun x => by rw [hm x]; simp)
  exact List.perm_singleton.1 hp
theorem rising_two {l : List ByteArray} {a b : ByteArray} (hab : ¬ a = b) (h : Rising l) (hm : ∀ x, x ∈ l ↔ x = a ∨ x = b) : l.length = 2 := by
  have hn := rising_nodup h
  have hp : l.Perm [a, b] := (List.perm_ext_iff_of_nodup hn (by simp [hab])).2 (fun x => by rw [hm x]; simp)
  exact hp.length_eq
end Go.Proofs.YtlnejmmhhmmomaaGreatDoor
namespace Go.Proofs.YtlnejmmhhmmomaaGreatDoor
open Go.RowKit Go.Shelf Go.Lib
/-- What the calls read besides. -/
structure Env (A : Nat → Addr) (w : World) : Prop where
  mx : Mx w
  tb : Tb w
  sq : SeqAt w
  se : Sents w A
theorem Env.below {A : Nat → Addr} {w w' : World} (h : Env A w) (hb : Below w.heap.size w w') : Env A w' := ⟨h.mx.below hb, h.tb.below hb, h.sq.later hb, h.se.below hb⟩
theorem bun_cell {W : World} {B : Nat} {x : Value} (h : W.heap[B]? = some (.cells #[x] 24 (0, 0))) : W.cell? ⟨B, 0, none⟩ = some x := by rw [cell_of_row _ _ _ _ _ _ h]; rfl
end Go.Proofs.YtlnejmmhhmmomaaGreatDoor
namespace Go.Proofs.YtlnejmmhhmmomaaGreatDoor
open Go.RowKit Go.Shelf Go.Lib Go.Maps Go.Sort
theorem own_cell0 {w : World} {base : Nat} {v : Value} {x : ByteArray} {l : List ByteArray} (h : OwnS w base v (x :: l)) : ∃ g cap, v = .slice (some ⟨g, 0, none⟩) (x :: l).length cap ∧ w.cell? ⟨g, 0, none⟩ = some (.string x) ∧ g < w.heap.size := by
  obtain ⟨g, cap, rfl, _, hg, _⟩ := own_form h (by simp)
  exact ⟨g, cap, rfl, by rw [World.ownsRow.cellAt h 0 (by simp)]; rfl, hg⟩
theorem kB_ed : ∀ s ∈ kB, s.ed.length ≤ 1000000000 := by decide
theorem kB_sz : ∀ s ∈ kB, ∀ e ∈ s.ed, e.2.size ≤ 140737488355328 := by decide
theorem chain_k (A : Nat → Addr) (a : Option Addr) (w : World) (hE : Env A w) (ha : XA w a kB) :
    Calls Tryz.prog 13 #[.agg #[.slice a 2 2], .string ⟨#[69, 78, 45, 117, 115]⟩] w fun e w' => ∃ g cap, e = .returned (.tuple #[.slice (some ⟨g, 0, none⟩) 3 cap, .nilIface]) ∧ w'.cell? ⟨g, 0, none⟩ = some (.string ⟨#[101, 110, 95, 85, 83]⟩) ∧ Below w.heap.size w w' := by
  have h := chain_any A kB a 2 ⟨#[69, 78, 45, 117, 115]⟩ w (by decide) (fun s hs => Nat.le_trans (kB_ed s hs) (by decide)) kB_sz hE.mx hE.tb hE.sq hE.se ha
  rw [chain_us _ tag1] at h
  refine h.mono ?_
  rintro e w' ⟨⟨v, rfl, ho⟩, hb⟩
  obtain ⟨g, cap, rfl, hc, _⟩ := own_cell0 ho
  exact ⟨g, cap, rfl, hc, hb⟩
theorem res_k (A : Nat → Addr) (a : Option Addr) (w : World) (hE : Env A w) (ha : XA w a kB) :
    Calls Tryz.prog 6 #[.agg #[.slice a 2 2], .string ⟨#[101, 110, 45, 117, 115]⟩] w fun e w' => ∃ g cap, e = .returned (.tuple #[.slice (some ⟨g, 0, none⟩) 1 cap, .nilIface]) ∧ w'.cell? ⟨g, 0, none⟩ = some (.string ⟨#[77, 114, 46]⟩) ∧ Below w.heap.size w w' := by
  have h := resolve_any A kB a 2 ⟨#[101, 110, 45, 117, 115]⟩ w (by decide) (by decide) kB_ed kB_sz hE.mx hE.tb hE.sq hE.se ha
  refine h.mono ?_
  rintro e w' ⟨hg, hb⟩
  unfold GoResolve at hg
  rw [chain_us _ tag2] at hg
  obtain ⟨v, l, ho, hr, hm, rfl⟩ := hg
  rw [eds_us] at hm
  obtain rfl := rising_one hr (fun x => (hm x).trans (last_us x))
  obtain ⟨g, cap, rfl, hc, _⟩ := own_cell0 ho
  exact ⟨g, cap, rfl, hc, hb⟩
theorem res_f (A : Nat → Addr) (a : Option Addr) (w : World) (hE : Env A w) (ha : XA w a kB) :
    Calls Tryz.prog 6 #[.agg #[.slice a 2 2], .string ⟨#[102, 114]⟩] w fun e w' => ∃ b cap, e = .returned (.tuple #[.slice b 2 cap, .nilIface]) ∧ Below w.heap.size w w' := by
  have h := resolve_any A kB a 2 ⟨#[102, 114]⟩ w (by decide) (by decide) kB_ed kB_sz hE.mx hE.tb hE.sq hE.se ha
  refine h.mono ?_
  rintro e w' ⟨hg, hb⟩
  unfold GoResolve at hg
  rw [chain_fr _ tag3] at hg
  obtain ⟨v, l, ho, hr, hm, rfl⟩ := hg
  rw [eds_fr] at hm
  have hl := rising_two mne hr (fun x => (hm x).trans (last_fr x))
  obtain ⟨b, cap, rfl⟩ := own_slice ho
  rw [hl]
  exact ⟨b, cap, rfl, hb⟩
theorem xa_k {W : World} {n : Nat} (h0 : W.heap[n]? = some (.cells #[.bool true, .string ⟨#[77, 114, 46]⟩, .bool true, .string ⟨#[101, 46, 103, 46]⟩] 42 (0, 0))) (h1 : W.heap[n + 1]? = some (.cells #[.bool false, .string ⟨#[101, 46, 103, 46]⟩] 42 (0, 0)))
    (h2 : W.heap[n + 1 + 1]? = some (.cells #[.string ⟨#[114, 111, 111, 116]⟩, .string ⟨#[]⟩, .slice (some ⟨n, 0, none⟩) 2 2, .string ⟨#[101, 110]⟩, .string ⟨#[]⟩, .slice (some ⟨n + 1, 0, none⟩) 1 1] 40 (0, 0))) : XA W (some ⟨n + 1 + 1, 0, none⟩) kB := ⟨fun k hk => by
  have l0 := lt_of_row h0
  have l1 := lt_of_row h1
  have l2 := lt_of_row h2
  match k, hk with
  | 0, _ => exact ⟨n + 1 + 1, 0, some ⟨n, 0, none⟩, 2, rfl, l2, by rw [cell_of_row _ _ _ _ _ _ h2]; rfl, by rw [cell_of_row _ _ _ _ _ _ h2]; rfl, by rw [cell_of_row _ _ _ _ _ _ h2]; rfl, ⟨fun j hj => by
      match j, hj with
      | 0, _ => exact ⟨n, 0, rfl, l0, by rw [cell_of_row _ _ _ _ _ _ h0]; rfl, by rw [cell_of_row _ _ _ _ _ _ h0]; rfl⟩
      | 1, _ => exact ⟨n, 0, rfl, l0, by rw [cell_of_row _ _ _ _ _ _ h0]; rfl, by rw [cell_of_row _ _ _ _ _ _ h0]; rfl⟩⟩⟩
  | 1, _ => exact ⟨n + 1 + 1, 0, some ⟨n + 1, 0, none⟩, 1, rfl, l2, by rw [cell_of_row _ _ _ _ _ _ h2]; rfl, by rw [cell_of_row _ _ _ _ _ _ h2]; rfl, by rw [cell_of_row _ _ _ _ _ _ h2]; rfl, ⟨fun j hj => by
      match j, hj with
      | 0, _ => exact ⟨n + 1, 0, rfl, l1, by rw [cell_of_row _ _ _ _ _ _ h1]; rfl, by rw [cell_of_row _ _ _ _ _ _ h1]; rfl⟩⟩⟩⟩
set_option maxRecDepth 10000 in
set_option maxHeartbeats 1600000 in
theorem known_any (A : Nat → Addr) (w : World) (hE : Env A w) : Calls Tryz.prog 11 #[] w fun e w' => e = .returned (.bool true) ∧ Below w.heap.size w w' := by
  obtain ⟨wa, hwa⟩ : ∃ wa, wa = w.alloc (.cells #[.bool true, .string ⟨#[77, 114, 46]⟩, .bool true, .string ⟨#[101, 46, 103, 46]⟩] 42) := ⟨_, rfl⟩
  obtain ⟨wb, hwb⟩ : ∃ wb, wb = wa.alloc (.cells #[.bool false, .string ⟨#[101, 46, 103, 46]⟩] 42) := ⟨_, rfl⟩
  obtain ⟨wc, hwc⟩ : ∃ wc, wc = wb.alloc (.cells #[.string ⟨#[114, 111, 111, 116]⟩, .string ⟨#[]⟩, .slice (some ⟨w.heap.size, 0, none⟩) 2 2, .string ⟨#[101, 110]⟩, .string ⟨#[]⟩, .slice (some ⟨w.heap.size + 1, 0, none⟩) 1 1] 40) := ⟨_, rfl⟩
  obtain ⟨wK, hwK⟩ : ∃ wK, wK = wc.alloc (.cells #[.slice (some ⟨w.heap.size + 1 + 1, 0, none⟩) 2 2] 24) := ⟨_, rfl⟩
  have sa : wa.heap.size = w.heap.size + 1 := by rw [hwa]; simp
  have sb : wb.heap.size = w.heap.size + 1 + 1 := by rw [hwb]; simp [sa]
  have sc : wc.heap.size = w.heap.size + 1 + 1 + 1 := by rw [hwc]; simp [sb]
  have ba : Below w.heap.size w wa := by rw [hwa]; exact (Below.refl _ _).alloc (Nat.le_refl _) _
  have bab : Below wa.heap.size wa wb := by rw [hwb]; exact (Below.refl _ _).alloc (Nat.le_refl _) _
  have bbc : Below wb.heap.size wb wc := by rw [hwc]; exact (Below.refl _ _).alloc (Nat.le_refl _) _
  have bcK : Below wc.heap.size wc wK := by rw [hwK]; exact (Below.refl _ _).alloc (Nat.le_refl _) _
  have ra := heap_alloc_new w (.cells #[.bool true, .string ⟨#[77, 114, 46]⟩, .bool true, .string ⟨#[101, 46, 103, 46]⟩] 42)
  have rb := heap_alloc_new wa (.cells #[.bool false, .string ⟨#[101, 46, 103, 46]⟩] 42)
  have rc := heap_alloc_new wb (.cells #[.string ⟨#[114, 111, 111, 116]⟩, .string ⟨#[]⟩, .slice (some ⟨w.heap.size, 0, none⟩) 2 2, .string ⟨#[101, 110]⟩, .string ⟨#[]⟩, .slice (some ⟨w.heap.size + 1, 0, none⟩) 1 1] 40)
  have rK := heap_alloc_new wc (.cells #[.slice (some ⟨w.heap.size + 1 + 1, 0, none⟩) 2 2] 24)
  rw [← hwa] at ra
  rw [← hwb, sa] at rb
  rw [← hwc, sb] at rc
  rw [← hwK, sc] at rK
  have bcc := Below.later bbc bcK
  have bac := Below.later bab bcc
  have hBK := Below.later ba bac
  have hXA : XA wK (some ⟨w.heap.size + 1 + 1, 0, none⟩) kB := xa_k ((bac.block _ (by omega)).trans ra) ((bcc.block _ (by omega)).trans rb) ((bcK.block _ (by omega)).trans rc)
  have hEK := hE.below hBK
  have HF : Hid ((((w.alloc (.cells #[.bool true, .string ⟨#[77, 114, 46]⟩, .bool true, .string ⟨#[101, 46, 103, 46]⟩] 42)).alloc (.cells #[.bool false, .string ⟨#[101, 46, 103, 46]⟩] 42)).alloc (.cells #[.string ⟨#[114, 111, 111, 116]⟩, .string ⟨#[]⟩, .slice (some ⟨w.heap.size, 0, none⟩) 2 2, .string ⟨#[101, 110]⟩, .string ⟨#[]⟩, .slice (some ⟨w.heap.size + 1, 0, none⟩) 1 1] 40)).alloc (.cells #[.slice (some ⟨w.heap.size + 1 + 1, 0, none⟩) 2 2] 24) = wK) := hid0 (by rw [← hwa, ← hwb, ← hwc, ← hwK])
  have HC := hid0 (chain_k A _ wK hEK hXA)
  have HR1 : Hid (∀ W, Below wK.heap.size wK W → _) := hid0 (fun W hW => res_k A (some ⟨w.heap.size + 1 + 1, 0, none⟩) W (hEK.below hW) (hXA.later hW))
  have HR2 : Hid (∀ W, Below wK.heap.size wK W → _) := hid0 (fun W hW => res_f A (some ⟨w.heap.size + 1 + 1, 0, none⟩) W (hEK.below hW) (hXA.later hW))
  have HXK : Hid (∀ W, Below wK.heap.size wK W → W.cell? ⟨w.heap.size + 1 + 1 + 1, 0, none⟩ = some (.slice (some ⟨w.heap.size + 1 + 1, 0, none⟩) 2 2)) := hid0 (fun W hW => bun_cell ((hW.block _ (lt_of_row rK)).trans rK))
  have HBK := hid0 hBK
  clear hwa hwb hwc hwK sa sb sc ba bab bbc bcK ra rb rc rK bcc bac hBK hXA hEK hE
  have M0 : Hid True := trivial
  go_enter Tryz.func11, Tryz.ntmps11
  go_wp2_with (first
    | (go_at_call 13; clear M0; go_loud ((
         rw [HF.out]
         refine HC.out.mono ?_
         rintro e w5 ⟨g, cap, rfl, hc, hb5⟩
         have x0 := HXK.out w5 hb5
         have HC5 := hid0 hc
         have HB5 := hid0 hb5
         have M1 : Hid True := trivial
         clear hc hb5)))
    | (go_at_call 6; clear M1; go_loud ((
         refine (HR1.out w5 HB5.out).mono ?_
         rintro e w6 ⟨g2, cap2, rfl, hc2, hb6⟩
         have hb6' := Below.later HB5.out hb6
         have x1 := HXK.out w6 hb6'
         have HC6 : Hid (w6.cell? ⟨g, 0, none⟩ = some (.string ⟨#[101, 110, 95, 85, 83]⟩)) := hid0 ((hb6.cell (World.block_lt_of_cell? w5 _ HC5.out)).trans HC5.out)
         have HD6 := hid0 hc2
         have HB6 := hid0 hb6'
         have M2 : Hid True := trivial
         clear hc2 hb6 hb6' HC5 HB5 x0)))
    | (go_at_call 6; clear M2; go_loud ((
         refine (HR2.out w6 HB6.out).mono ?_
         rintro e w7 ⟨b3, cap3, rfl, hb7⟩
         have y0 : w7.cell? ⟨g, 0, none⟩ = some (.string ⟨#[101, 110, 95, 85, 83]⟩) := (hb7.cell (World.block_lt_of_cell? w6 _ HC6.out)).trans HC6.out
         have y1 : w7.cell? ⟨g2, 0, none⟩ = some (.string ⟨#[77, 114, 46]⟩) := (hb7.cell (World.block_lt_of_cell? w6 _ HD6.out)).trans HD6.out
         have HB7 := hid0 (Below.later HBK.out (Below.later HB6.out hb7))
         clear hb7 HC6 HD6 HB6 x1))))
  go_ret
  exact ⟨rfl, HB7.out⟩
end Go.Proofs.YtlnejmmhhmmomaaGreatDoor
namespace Go.Proofs.YtlnejmmhhmmomaaGreatDoor
open Go.RowKit Go.Shelf Go.Lib
/-- A list without a text. -/
noncomputable def outL (l : List ByteArray) (s : ByteArray) : List ByteArray := l.filter fun x => decide (¬ x = s)
theorem outL_le (l : List ByteArray) (s : ByteArray) : (outL l s).length ≤ l.length := List.length_filter_le _ _
theorem mem_outL (l : List ByteArray) (s x : ByteArray) : x ∈ outL l s ↔ x ∈ l ∧ ¬ x = s := by simp [outL]
theorem outL_snoc (l : List ByteArray) (s x : ByteArray) : outL (l ++ [x]) s = outL l s ++ if x = s then [] else [x] := by
  unfold outL
  rw [List.filter_append]
  by_cases h : x = s <;> simp [h]
end Go.Proofs.YtlnejmmhhmmomaaGreatDoor
namespace Go.Proofs.YtlnejmmhhmmomaaGreatDoor
open Go.RowKit Go.Shelf Go.Lib
theorem outL_lt {l : List ByteArray} {s : ByteArray} (h : s ∈ l) : (outL l s).length < l.length := by
  have h1 := outL_le l s
  by_cases e : (outL l s).length = l.length
  · have h2 := List.length_filter_eq_length_iff.1 e s h
    simp at h2
  · omega
theorem rising_at {r : List ByteArray} (h : Rising r) {m : Nat} (hm : m + 1 < r.length) : Op.bytesLess r[m].toList r[m + 1].toList = true := by
  have h1 := List.pairwise_iff_getElem.1 h m (m + 1) (by omega) hm (by omega)
  rw [ByteArray.toList_eq, ByteArray.toList_eq, bytesLess_eq]
  simpa using h1
end Go.Proofs.YtlnejmmhhmmomaaGreatDoor
namespace Go.Proofs.YtlnejmmhhmmomaaGreatDoor
open Go.RowKit Go.Shelf Go.Lib
set_option maxRecDepth 10000 in
set_option maxHeartbeats 1600000 in
theorem refWithout_any (l : List ByteArray) (a : Option Addr) (ca : Nat) (s : ByteArray) (w : World) (hl : l.length ≤ 1000000000) (ha : SA w a l) :
    Calls Tryz.prog 21 #[.slice a l.length ca, .string s] w fun e w' => (∃ v, e = .returned v ∧ OwnS w' w.heap.size v (outL l s)) ∧ Below w.heap.size w w' := by
  obtain ⟨i0, hi, hz0, hz1, hz2⟩ := info_parts infoStr
  have HA := hid0 ha
  clear ha
  go_enter Tryz.func21, Tryz.ntmps21
  go_wp2
  go_loopw [5, 6] (fun v i wr => ∃ k : Nat, k ≤ l.length ∧ i = .int .i64 (k : Int) ∧ Hid (OwnS wr w.heap.size v (outL (l.take k) s)) ∧ Hid (Below w.heap.size w wr)) (fun _ i _ => l.length - (intOf i).toNat)
  case atStart => exact ⟨0, Nat.zero_le _, rfl, hid0 (World.ownsRow_nil _ _ _ _), hid0 (Below.refl _ _)⟩
  case round =>
    obtain ⟨k, hk, rfl, HO, HB⟩ := hrel
    by_cases hlt : k < l.length
    · have hbs := HB.out.size
      have hkI : (k : Int) < (l.length : Int) := by omega
      have hk0 : (0 : Int) ≤ (k : Int) := by omega
      have htk : l.take (k + 1) = l.take k ++ [l[k]] := by rw [List.take_add_one, List.getElem?_eq_getElem hlt]; rfl
      have HX : Hid (outL (l.take (k + 1)) s = outL (l.take k) s ++ if l[k] = s then [] else [l[k]]) := hid0 (by rw [htk, outL_snoc])
      have hxl : (outL (l.take k) s).length ≤ k := Nat.le_trans (outL_le _ _) (by rw [List.length_take]; omega)
      obtain ⟨b, off, rfl, hbl, c0⟩ := (HA.out.below HB.out).at' k hlt
      have hse := str_eq l[k] s
      clear htk
      generalize outL (l.take k) s = X at *
      by_cases e : l[k] = s
      · rw [decide_eq_true e] at hse
        have hsn : (l[k].toList != s.toList) = false := by rw [bne, hse]; rfl
        rw [if_pos e, List.append_nil] at HX
        have HO4 := HO
        rw [← HX.out] at HO4
        clear e HX HO
        generalize l[k] = m at *
        go_wp2
        go_roundw
        case rel => exact ⟨k + 1, by omega, by go_num, HO4, HB⟩
        case measure => simp [intOf]; omega
      · rw [decide_eq_false e] at hse
        have hsn : (l[k].toList != s.toList) = true := by rw [bne, hse]; rfl
        rw [if_neg e] at HX
        clear e
        generalize l[k] = m at *
        go_wp2_with (first
          | (at_builtin; refine wpList_append_own _ rfl _ _ 28 rfl w.heap.size 9 i0 (.string ⟨#[]⟩) 1 16 Tryz.underlying28 hi hz0 hz1 hz2 rfl (by decide) _ _ _ rfl (World.ownsRow.alloc HO.out _) ⟨_, 0, none⟩ 1 1 [.string m] rfl rfl (cell_one_new _ _ _) ?c2b ?c3b ?c4b ?c5b ?_)
          | fail)
        case c2b => simp [Value.oneCell']
        case c3b => unfold maxLen; omega
        case c4b => omega
        case c5b => simp; omega
        intro v2 w4 hown' hgrow _
        obtain ⟨g1, g2⟩ := owns_snoc (base := w.heap.size) (L := X) (c := m) (n := X.length) rfl HO.out hown' hgrow HB.out (Nat.le_refl _)
        have HO4 : Hid (OwnS w4 w.heap.size v2 (outL (l.take (k + 1)) s)) := hid0 (by rw [HX.out]; exact g1)
        have HB4 := hid0 g2
        clear hown' hgrow g1 g2 HO HB HX
        go_wp2
        go_roundw
        case rel => exact ⟨k + 1, by omega, by go_num, HO4, HB4⟩
        case measure => simp [intOf]; omega
    · have hkI : ¬ (k : Int) < (l.length : Int) := by omega
      rw [List.take_of_length_le (show l.length ≤ k by omega)] at HO
      go_wp2
      go_ret
      exact ⟨⟨_, rfl, HO.out⟩, HB.out⟩
/-- A rising list with a text more. -/
structure Ins (l : List ByteArray) (s : ByteArray) (Y : List ByteArray) : Prop where
  up : Rising Y
  mem : ∀ x, x ∈ Y ↔ x ∈ l ∨ x = s
/-- What stands of it, while the list is gone through. -/
structure InsJ (l : List ByteArray) (s : ByteArray) (k : Nat) (dn : Bool) (X : List ByteArray) : Prop where
  no : dn = false → X = l.take k ∧ ∀ x ∈ X, x.data.toList < s.data.toList
  yes : dn = true → Rising X ∧ (∀ x, x ∈ X ↔ x ∈ l.take k ∨ x = s) ∧ ∀ j (h : j < l.length), k ≤ j → s.data.toList < l[j].data.toList
theorem lt_trans' {x y z : ByteArray} (h1 : x.data.toList < y.data.toList) (h2 : y.data.toList < z.data.toList) : x.data.toList < z.data.toList := List.lt_trans h1 h2
theorem take_snoc {l : List ByteArray} {k : Nat} (h : k < l.length) : l.take (k + 1) = l.take k ++ [l[k]] := by rw [List.take_add_one, List.getElem?_eq_getElem h]; rfl
theorem rising_snoc {X : List ByteArray} {y : ByteArray} (h : Rising X) (hy : ∀ x ∈ X, x.data.toList < y.data.toList) : Rising (X ++ [y]) := by
  unfold Rising
  rw [List.pairwise_append]
  exact ⟨h, by simp, fun a ha b hb => by rw [List.mem_singleton] at hb; subst hb; exact hy a ha⟩
theorem rising_before {l : List ByteArray} (h : Rising l) {k : Nat} (hk : k < l.length) : ∀ x ∈ l.take k, x.data.toList < l[k].data.toList := fun x hx => by
  obtain ⟨j, hj, rfl⟩ := List.getElem_of_mem hx
  have hjk : j < k := by rw [List.length_take] at hj; omega
  rw [List.getElem_take]
  exact List.pairwise_iff_getElem.1 h j k (by omega) hk hjk
theorem InsJ.start (l : List ByteArray) (s : ByteArray) : InsJ l s 0 false [] := ⟨fun _ => ⟨rfl, fun x hx => by cases hx⟩, fun h => by cases h⟩
theorem InsJ.stepNo {l X : List ByteArray} {s : ByteArray} {k : Nat} (h : InsJ l s k false X) (hk : k < l.length) (hne : ¬ l[k] = s) (hlt : ¬ s.data.toList < l[k].data.toList) : InsJ l s (k + 1) false (X ++ [l[k]]) := by
  obtain ⟨h1, h2⟩ := h.no rfl
  refine ⟨fun _ => ⟨by rw [take_snoc hk, h1], fun x hx => ?_⟩, fun q => by cases q⟩
  rcases List.mem_append.1 hx with hx | hx
  · exact h2 x hx
  · rw [List.mem_singleton] at hx
    subst hx
    exact Std.lt_of_le_of_ne (List.not_lt.1 hlt) (fun e => hne (ByteArray.ext (Array.toList_inj.1 e)))
theorem InsJ.turn {l X : List ByteArray} {s : ByteArray} {k : Nat} (h : InsJ l s k false X) (hR : Rising l) (hk : k < l.length) (hlt : s.data.toList < l[k].data.toList) : InsJ l s (k + 1) true (X ++ [s] ++ [l[k]]) := by
  obtain ⟨h1, h2⟩ := h.no rfl
  have hX : Rising X := by rw [h1]; exact hR.sublist (List.take_sublist _ _)
  refine ⟨(fun q => by cases q), fun _ => ⟨rising_snoc (rising_snoc hX h2) (fun x hx => ?_), fun x => ?_, fun j hj hkj => ?_⟩⟩
  · rcases List.mem_append.1 hx with hx | hx
    · exact lt_trans' (h2 x hx) hlt
    · rw [List.mem_singleton] at hx; subst hx; exact hlt
  · rw [take_snoc hk, h1]
    simp only [List.mem_append, List.mem_singleton]
    constructor
    · rintro ((h | h) | h)
      · exact .inl (.inl h)
      · exact .inr h
      · exact .inl (.inr h)
    · rintro ((h | h) | h)
      · exact .inl (.inl h)
      · exact .inr h
      · exact .inl (.inr h)
  · exact lt_trans' hlt (List.pairwise_iff_getElem.1 hR k j hk hj (by omega))
theorem InsJ.stepYes {l X : List ByteArray} {s : ByteArray} {k : Nat} (h : InsJ l s k true X) (hR : Rising l) (hk : k < l.length) : InsJ l s (k + 1) true (X ++ [l[k]]) := by
  obtain ⟨h1, h2, h3⟩ := h.yes rfl
  refine ⟨(fun q => by cases q), fun _ => ⟨rising_snoc h1 (fun x hx => ?_), fun x => ?_, fun j hj hkj => h3 j hj (by omega)⟩⟩
  · rcases (h2 x).1 hx with hx | rfl
    · exact rising_before hR hk x hx
    · exact h3 k hk (Nat.le_refl _)
  · rw [take_snoc hk, List.mem_append, List.mem_append, h2 x]
    constructor
    · rintro ((h | h) | h)
      · exact .inl (.inl h)
      · exact .inr h
      · exact .inl (.inr h)
    · rintro ((h | h) | h)
      · exact .inl (.inl h)
      · exact .inr h
      · exact .inl (.inr h)
theorem InsJ.endNo {l X : List ByteArray} {s : ByteArray} (h : InsJ l s l.length false X) (hR : Rising l) : Ins l s (X ++ [s]) := by
  obtain ⟨h1, h2⟩ := h.no rfl
  rw [List.take_length] at h1
  subst h1
  exact ⟨rising_snoc hR h2, fun x => by simp⟩
theorem InsJ.endYes {l X : List ByteArray} {s : ByteArray} (h : InsJ l s l.length true X) : Ins l s X := by
  obtain ⟨h1, h2, _⟩ := h.yes rfl
  rw [List.take_length] at h2
  exact ⟨h1, h2⟩
theorem ins_there {l : List ByteArray} {k : Nat} (hR : Rising l) (hk : k < l.length) : Ins l l[k] l := ⟨hR, fun x => ⟨.inl, fun h => by rcases h with h | rfl; exact h; exact List.getElem_mem hk⟩⟩
set_option maxRecDepth 10000 in
set_option maxHeartbeats 3200000 in
theorem refWith_any (l : List ByteArray) (a : Option Addr) (ca : Nat) (s : ByteArray) (w : World) (hl : l.length ≤ 1000000000) (hR : Rising l) (ha : SA w a l) :
    Calls Tryz.prog 20 #[.slice a l.length ca, .string s] w fun e w' => (∃ a' c', ∃ Y : List ByteArray, e = .returned (.slice a' Y.length c') ∧ SA w' a' Y ∧ Ins l s Y ∧ Y.length ≤ l.length + 1) ∧ Below w.heap.size w w' := by
  obtain ⟨i0, hi, hz0, hz1, hz2⟩ := info_parts infoStr
  have HA := hid0 ha
  have HR := hid0 hR
  clear ha hR
  go_enter Tryz.func20, Tryz.ntmps20
  go_wp2
  go_loopw [5, 6, 7] (fun v d i wr => ∃ (k : Nat) (X : List ByteArray) (dn : Bool), k ≤ l.length ∧ i = .int .i64 (k : Int) ∧ d = .bool dn ∧ X.length ≤ k + 1 ∧ Hid (InsJ l s k dn X) ∧ Hid (OwnS wr w.heap.size v X) ∧ Hid (Below w.heap.size w wr)) (fun _ _ i _ => l.length - (intOf i).toNat)
  case atStart => exact ⟨0, [], false, Nat.zero_le _, rfl, rfl, by simp, hid0 (InsJ.start l s), hid0 (World.ownsRow_nil _ _ _ _), hid0 (Below.refl _ _)⟩
  case round =>
    obtain ⟨k, X, dn, hk, rfl, rfl, hX, HJ, HO, HB⟩ := hrel
    have hbs := HB.out.size
    by_cases hlt : k < l.length
    · have hkI : (k : Int) < (l.length : Int) := by omega
      have hk0 : (0 : Int) ≤ (k : Int) := by omega
      obtain ⟨b, off, rfl, hbl, c0⟩ := (HA.out.below HB.out).at' k hlt
      have hse := str_eq l[k] s
      by_cases e : l[k] = s
      · have HI : Hid (Ins l s l) := hid0 (by rw [← e]; exact ins_there HR.out hlt)
        rw [decide_eq_true e] at hse
        have HSA := hid0 (HA.out.below HB.out)
        clear e HJ HO
        generalize l[k] = m at *
        go_wp2
        go_ret
        exact ⟨⟨_, _, l, rfl, HSA.out, HI.out, by omega⟩, HB.out⟩
      · have HNE := hid0 e
        rw [decide_eq_false e] at hse
        have hbl2 : Op.bytesLess s.toList l[k].toList = decide (s.data.toList < l[k].data.toList) := by rw [ByteArray.toList_eq, ByteArray.toList_eq, bytesLess_eq]
        clear e
        have HCell : Hid (∀ W : World, Below w.heap.size w W → W.cell? ⟨b, off + k, none⟩ = some (.string l[k])) := hid0 (fun W hW => by
          obtain ⟨b2, o2, e2, _, c2⟩ := (HA.out.below hW).at' k hlt
          cases e2
          exact c2)
        cases dn with
        | true =>
          have HJ2 := hid0 (HJ.out.stepYes HR.out hlt)
          clear HJ HNE hbl2 HCell
          generalize l[k] = m at *
          go_wp2_with (first
            | (at_builtin; refine wpList_append_own _ rfl _ _ 28 rfl w.heap.size 9 i0 (.string ⟨#[]⟩) 1 16 Tryz.underlying28 hi hz0 hz1 hz2 rfl (by decide) _ _ _ rfl (World.ownsRow.alloc HO.out _) ⟨_, 0, none⟩ 1 1 [.string m] rfl rfl (cell_one_new _ _ _) ?c2b ?c3b ?c4b ?c5b ?_)
            | fail)
          case c2b => simp [Value.oneCell']
          case c3b => unfold maxLen; simp; omega
          case c4b => first | omega | (simp; omega)
          case c5b => first | omega | (simp; omega)
          intro v2 w4 hown' hgrow _
          obtain ⟨g1, g2⟩ := owns_snoc (base := w.heap.size) (L := X) (c := m) (n := X.length) rfl HO.out hown' hgrow HB.out (Nat.le_refl _)
          have HO4 := hid0 g1
          have HB4 := hid0 g2
          clear hown' hgrow g1 g2
          go_wp2
          go_roundw
          case rel => exact ⟨k + 1, X ++ [m], true, by omega, by go_num, rfl, by simp; omega, HJ2, HO4, HB4⟩
          case measure => simp [intOf]; omega
        | false =>
          by_cases h : s.data.toList < l[k].data.toList
          · have HJ2 := hid0 (HJ.out.turn HR.out hlt h)
            have hXk : X.length ≤ k := by rw [(HJ.out.no rfl).1, List.length_take]; omega
            rw [decide_eq_true h] at hbl2
            clear HJ HNE h
            generalize l[k] = m at *
            go_wp2_with (first
              | (at_builtin; refine wpList_append_own _ rfl _ _ 28 rfl w.heap.size 9 i0 (.string ⟨#[]⟩) 1 16 Tryz.underlying28 hi hz0 hz1 hz2 rfl (by decide) _ _ _ rfl (World.ownsRow.alloc HO.out _) ⟨_, 0, none⟩ 1 1 [.string s] rfl rfl (cell_one_new _ _ _) ?c2b ?c3b ?c4b ?c5b ?_)
              | fail)
            case c2b => simp [Value.oneCell']
            case c3b => unfold maxLen; simp; omega
            case c4b => first | omega | (simp; omega)
            case c5b => first | omega | (simp; omega)
            intro v2 w4 hown' hgrow _
            obtain ⟨g1, g2⟩ := owns_snoc (base := w.heap.size) (L := X) (c := s) (n := X.length) rfl HO.out hown' hgrow HB.out (Nat.le_refl _)
            have HO4 := hid0 g1
            have HB4 := hid0 g2
            clear hown' hgrow g1 g2
            have c5 := HCell.out w4 HB4.out
            have hbs4 := HB4.out.size
            clear c0 HCell HO HB
            go_wp2_with (first
              | (at_builtin; refine wpList_append_own _ rfl _ _ 28 rfl w.heap.size 9 i0 (.string ⟨#[]⟩) 1 16 Tryz.underlying28 hi hz0 hz1 hz2 rfl (by decide) _ _ _ rfl (World.ownsRow.alloc HO4.out _) ⟨_, 0, none⟩ 1 1 [.string m] rfl rfl (cell_one_new _ _ _) ?c2b ?c3b ?c4b ?c5b ?_)
              | fail)
            case c2b => simp [Value.oneCell']
            case c3b => unfold maxLen; simp; omega
            case c4b => first | omega | (simp; omega)
            case c5b => first | omega | (simp; omega)
            intro v3 w5 hown' hgrow _
            obtain ⟨g1, g2⟩ := owns_snoc (base := w.heap.size) (L := X ++ [s]) (c := m) (n := X.length + 1) (by simp) HO4.out hown' hgrow HB4.out (Nat.le_refl _)
            have HO5 := hid0 g1
            have HB5 := hid0 g2
            clear hown' hgrow g1 g2
            go_wp2
            go_roundw
            case rel => exact ⟨k + 1, X ++ [s] ++ [m], true, by omega, by go_num, rfl, by simp; omega, HJ2, HO5, HB5⟩
            case measure => simp [intOf]; omega
          · have HJ2 := hid0 (HJ.out.stepNo hlt HNE.out h)
            rw [decide_eq_false h] at hbl2
            clear HJ HNE h HCell
            generalize l[k] = m at *
            go_wp2_with (first
              | (at_builtin; refine wpList_append_own _ rfl _ _ 28 rfl w.heap.size 9 i0 (.string ⟨#[]⟩) 1 16 Tryz.underlying28 hi hz0 hz1 hz2 rfl (by decide) _ _ _ rfl (World.ownsRow.alloc HO.out _) ⟨_, 0, none⟩ 1 1 [.string m] rfl rfl (cell_one_new _ _ _) ?c2b ?c3b ?c4b ?c5b ?_)
              | fail)
            case c2b => simp [Value.oneCell']
            case c3b => unfold maxLen; simp; omega
            case c4b => first | omega | (simp; omega)
            case c5b => first | omega | (simp; omega)
            intro v2 w4 hown' hgrow _
            obtain ⟨g1, g2⟩ := owns_snoc (base := w.heap.size) (L := X) (c := m) (n := X.length) rfl HO.out hown' hgrow HB.out (Nat.le_refl _)
            have HO4 := hid0 g1
            have HB4 := hid0 g2
            clear hown' hgrow g1 g2
            go_wp2
            go_roundw
            case rel => exact ⟨k + 1, X ++ [m], false, by omega, by go_num, rfl, by simp; omega, HJ2, HO4, HB4⟩
            case measure => simp [intOf]; omega
    · have hkI : ¬ (k : Int) < (l.length : Int) := by omega
      obtain rfl : k = l.length := by omega
      cases dn with
      | true =>
        have HI := hid0 (HJ.out.endYes)
        obtain ⟨a', c', rfl, hsa, _⟩ := HO.out.sa
        have HSA := hid0 hsa
        clear hsa HJ
        go_wp2
        go_ret
        exact ⟨⟨_, _, X, rfl, HSA.out, HI.out, hX⟩, HB.out⟩
      | false =>
        have HI := hid0 (HJ.out.endNo HR.out)
        have hXk : X.length ≤ l.length := by rw [(HJ.out.no rfl).1, List.length_take]; omega
        clear HJ
        go_wp2_with (first
          | (at_builtin; refine wpList_append_own _ rfl _ _ 28 rfl w.heap.size 9 i0 (.string ⟨#[]⟩) 1 16 Tryz.underlying28 hi hz0 hz1 hz2 rfl (by decide) _ _ _ rfl (World.ownsRow.alloc HO.out _) ⟨_, 0, none⟩ 1 1 [.string s] rfl rfl (cell_one_new _ _ _) ?c2b ?c3b ?c4b ?c5b ?_)
          | fail)
        case c2b => simp [Value.oneCell']
        case c3b => unfold maxLen; simp; omega
        case c4b => first | omega | (simp; omega)
        case c5b => first | omega | (simp; omega)
        intro v2 w4 hown' hgrow _
        obtain ⟨g1, g2⟩ := owns_snoc (base := w.heap.size) (L := X) (c := s) (n := X.length) rfl HO.out hown' hgrow HB.out (Nat.le_refl _)
        have HO4 := hid0 g1
        have HB4 := hid0 g2
        clear hown' hgrow g1 g2
        obtain ⟨a', c', rfl, hsa, _⟩ := HO4.out.sa
        have HSA := hid0 hsa
        clear hsa
        go_wp2
        go_ret
        exact ⟨⟨_, _, X ++ [s], rfl, HSA.out, HI.out, by simp; omega⟩, HB4.out⟩
end Go.Proofs.YtlnejmmhhmmomaaGreatDoor
namespace Go.Proofs.YtlnejmmhhmmomaaGreatDoor
open Go.RowKit Go.Shelf Go.Lib
theorem join_snoc : ∀ (qs : List (List UInt8)) (q : List UInt8), qs ≠ [] → joinU (qs ++ [q]) = joinU qs ++ 95 :: q
  | [], _, h => absurd rfl h
  | [p], q, _ => by rw [List.singleton_append, joinU_cons, joinU_one, joinU_one]
  | p :: p2 :: r, q, _ => by
    have ih := join_snoc (p2 :: r) q (by simp)
    rw [List.cons_append] at ih
    rw [List.cons_append, List.cons_append, joinU_cons, joinU_cons, ih]
    simp
theorem at_list (s : ByteArray) (k : Nat) (h : k < s.size) : ((s.data[k]!).toNat : Int) = 95 ↔ s.data.toList[k]? = some 95 := by
  rw [byte_bang s k h, bget s k h]
  constructor
  · intro e
    have : s[k] = 95 := UInt8.toNat_inj.1 (by have : (95 : UInt8).toNat = 95 := rfl; omega)
    rw [this]
  · intro e
    have := Option.some.inj e
    rw [this]; rfl
theorem last_none {l : List UInt8} (h : ∀ b ∈ l, b ≠ 95) : Lib.lastIndexByte (strOf l) 95 = -1 := by
  rcases Lib.lastIndexByte_spec (strOf l) 95 with ⟨e, _⟩ | ⟨i, hi, e, hb, _⟩
  · exact e
  · have h2 := (at_list (strOf l) i hi).1 hb
    rw [strOf_data] at h2
    exact absurd rfl (h 95 (List.mem_of_getElem? h2))
theorem last_at {l q : List UInt8} (h : ∀ b ∈ q, b ≠ 95) : Lib.lastIndexByte (strOf (l ++ 95 :: q)) 95 = (l.length : Int) := by
  have hsz : (strOf (l ++ 95 :: q)).size = l.length + 1 + q.length := by rw [strOf_size]; simp; omega
  have h0 : (strOf (l ++ 95 :: q)).data.toList[l.length]? = some 95 := by rw [strOf_data]; simp
  rcases Lib.lastIndexByte_spec (strOf (l ++ 95 :: q)) 95 with ⟨_, hn⟩ | ⟨i, hi, e, hb, hn⟩
  · exact absurd ((at_list _ _ (by omega)).2 h0) (hn l.length (by omega))
  · rw [e]
    by_cases h1 : i < l.length
    · exact absurd ((at_list _ _ (by omega)).2 h0) (hn l.length h1 (by omega))
    · by_cases h2 : i = l.length
      · rw [h2]
      · have h3 := (at_list _ i hi).1 hb
        rw [strOf_data, List.getElem?_append_right (by omega)] at h3
        obtain ⟨k, hk⟩ : ∃ k, i - l.length = k + 1 := ⟨i - l.length - 1, by omega⟩
        rw [hk, List.getElem?_cons_succ] at h3
        exact absurd rfl (h 95 (List.mem_of_getElem? h3))
theorem N_ne (b : UInt8) (h : isN b = true) : b ≠ 95 := fun e => by
  have := N_sep b h
  rw [e] at this
  exact absurd this (by decide)
theorem root_tag : tagF rootB.data.toList = some rootB.data.toList := by decide
/-- What is left of a tag's one form, when its last piece is cut off, is a one form. -/
theorem tagF_cut {t c : List UInt8} (h : tagF t = some c) : tagF (cutB (strOf c)).data.toList = some (cutB (strOf c)).data.toList := by
  obtain ⟨hl, hv, _, hc⟩ := tagF_le h
  have hN := canonP_N (pieces_of_fine t (validP_fine hv))
  have hne := canonP_ne (pieces_ne t)
  have hv2 := hv
  rw [← validP_canon] at hv2
  have htw := canonP_twice (pieces t)
  generalize canonP (pieces t) = ps at *
  rcases List.eq_nil_or_concat ps with rfl | ⟨qs, q, rfl⟩
  · exact absurd rfl hne
  · rw [List.concat_eq_append] at *
    have hq : ∀ b ∈ q, b ≠ 95 := fun b hb => N_ne b (hN q (by simp) b hb)
    by_cases hqs : qs = []
    · subst hqs
      rw [List.nil_append, joinU_one] at hc
      subst hc
      rw [cutB, last_none hq]
      exact root_tag
    · rw [join_snoc qs q hqs] at hc
      have hla := last_at (l := joinU qs) hq
      rw [← hc] at hla
      obtain ⟨p, r, rfl⟩ : ∃ p r, qs = p :: r := by cases qs with | nil => exact absurd rfl hqs | cons p r => exact ⟨p, r, rfl⟩
      have hns : ∀ p' ∈ p :: r, ∀ b ∈ p', isSep b = false := fun p' hp b hb => N_sep b (hN p' (List.mem_append_left _ hp) b hb)
      have hpj := pieces_join (p :: r) (by simp) hns
      simp only [validP, List.cons_append, List.headD_cons, Bool.and_eq_true] at hv2
      have hp2 := of_decide_eq_true hv2.1.2
      have hpl : 0 < (joinU (p :: r)).length := by
        rcases r with _ | ⟨r1, r⟩
        · rw [joinU_one]; omega
        · rw [joinU_cons]; simp; omega
      have hcut : (cutB (strOf c)).data.toList = joinU (p :: r) := by
        rw [cutB, hla, if_neg (by omega)]
        rw [Int.toNat_natCast]
        have : ((strOf c).extract 0 (joinU (p :: r)).length).data.toList = c.take (joinU (p :: r)).length := by
          rw [ByteArray.data_extract]; simp [strOf]
        rw [this, hc, List.take_left']
        rfl
      rw [hcut]
      unfold tagF
      rw [hpj, if_pos]
      · congr 1
        simp only [List.cons_append, canonP, List.map_append, List.cons.injEq] at htw
        obtain ⟨e1, e2⟩ := htw
        have e3 := (List.append_inj e2 (by simp)).1
        rw [canonP, e1, e3]
      · refine ⟨by rw [hc] at hl; simp at hl; omega, ?_⟩
        simp only [validP, List.headD_cons, Bool.and_eq_true]
        obtain ⟨⟨⟨a1, a2⟩, a3⟩, a4⟩ := hv2
        refine ⟨⟨⟨?_, a2⟩, a3⟩, ?_⟩
        · rw [List.all_eq_true] at a1 ⊢
          exact fun x hx => a1 x (by rw [← List.cons_append]; exact List.mem_append_left _ hx)
        · have : (p.map lowerB == rootL) = false := by
            simp only [Bool.not_eq_true', Bool.and_eq_false_iff] at a4
            rcases a4 with h | h
            · exact h
            · simp at h
          rw [this]; rfl
theorem tag_self {t c : List UInt8} (h : tagF t = some c) : tagF c = some c := by
  unfold tagF at h
  split at h
  · rename_i hv
    obtain rfl := Option.some.inj h
    rw [tagF_form (validP_fine hv.2) hv.1, if_pos hv.2]
  · cases h
/-- A text that is its own one form. -/
def Cn (x : ByteArray) : Prop := tagF x.data.toList = some x.data.toList
theorem cn_cut {x : ByteArray} (h : Cn x) : Cn (cutB x) := by
  have := tagF_cut h
  rw [strOf_self] at this
  exact this
theorem cn_par {E : ByteArray → Option Nat} {L : List Sec} (h : chkE E L = none) {t : ByteArray} (ht : Cn t) : Cn (parL L t) := by
  unfold parL
  cases hq : secOf L t with
  | none => exact cn_cut ht
  | some s =>
    simp only
    split
    · exact cn_cut ht
    · rename_i hp
      have h1 := par_ok h s (List.mem_of_find?_eq_some hq) (by simpa using hp)
      unfold isTagB at h1
      have h2 := of_decide_eq_true h1
      exact h2
theorem go_more (L : List Sec) : ∀ (f : Nat) (ch : List ByteArray) (last : ByteArray) (c : List ByteArray), chainGo L f ch last = .ok c → ∃ r, c = ch ++ r
  | 0, _, _, _, h => by cases h
  | f + 1, ch, last, c, h => by
    rw [chainGo] at h
    split at h
    · cases h; exact ⟨[], by simp⟩
    · split at h
      · cases h
      · split at h
        · cases h
        · obtain ⟨r, rfl⟩ := go_more L f _ _ c h
          exact ⟨parL L last :: r, by simp⟩
theorem go_root (L : List Sec) : ∀ (f : Nat) (ch : List ByteArray) (last : ByteArray) (c : List ByteArray), chainGo L f (ch ++ [last]) last = .ok c → ∃ r x, c = r ++ [x] ∧ (x.toList == [114, 111, 111, 116]) = true
  | 0, _, _, _, h => by cases h
  | f + 1, ch, last, c, h => by
    rw [chainGo] at h
    split at h
    · rename_i hr
      cases h; exact ⟨ch, last, rfl, hr⟩
    · split at h
      · cases h
      · split at h
        · cases h
        · exact go_root L f (ch ++ [last]) (parL L last) c h
theorem go_len (L : List Sec) : ∀ (f : Nat) (ch : List ByteArray) (last : ByteArray) (c : List ByteArray), ch.length ≤ 16 → chainGo L f ch last = .ok c → c.length ≤ 16
  | 0, _, _, _, _, h => by cases h
  | f + 1, ch, last, c, hl, h => by
    rw [chainGo] at h
    split at h
    · cases h; exact hl
    · split at h
      · cases h
      · split at h
        · cases h
        · exact go_len L f _ _ c (by simp; omega) h
theorem go_tail (L : List Sec) (x : ByteArray) : ∀ (f g : Nat) (ch : List ByteArray) (last : ByteArray) (c : List ByteArray), f ≤ g → ch.length ≤ 15 → chainGo L f (x :: ch) last = .ok c → ∃ tl, c = x :: tl ∧ chainGo L g ch last = .ok tl
  | 0, _, _, _, _, _, _, h => by cases h
  | f + 1, g, ch, last, c, hg, hl, h => by
    obtain ⟨g, rfl⟩ : ∃ g', g = g' + 1 := ⟨g - 1, by omega⟩
    rw [chainGo] at h ⊢
    split at h
    · rename_i hr
      rw [if_pos hr]
      cases h; exact ⟨ch, rfl, rfl⟩
    · rename_i hr
      rw [if_neg hr]
      split at h
      · cases h
      · rename_i hc
        have hc2 : ¬ Lib.containsS ch (parL L last) = true := fun e => hc ((Lib.containsS_iff _ _).2 (List.mem_cons_of_mem _ ((Lib.containsS_iff _ _).1 e)))
        rw [if_neg hc2]
        split at h
        · cases h
        · rename_i h6
          rw [if_neg (by omega)]
          exact go_tail L x f g (ch ++ [parL L last]) (parL L last) c (by omega) (by simp at h6 ⊢; omega) h
/-- A chain's parts. -/
theorem chain_parts {L : List Sec} {t : ByteArray} {c : List ByteArray} (h : chainF L t = .ok c) : chkE entE L = none ∧ c.length ≤ 16 ∧ (∃ r x, c = r ++ [x] ∧ (x.toList == [114, 111, 111, 116]) = true) ∧
    ∃ c0 tl, c = c0 :: tl ∧ (tl = [] ∨ ∃ p r, tl = p :: r ∧ chainF L p = .ok tl) := by
  unfold chainF at h
  split at h
  · cases h
  · rename_i hk
    split at h
    · cases h
    · rename_i d hd
      have hcn : Cn (strOf d) := by unfold Cn; rw [strOf_data]; exact tag_self hd
      refine ⟨hk, go_len L 17 _ _ c (by simp) h, go_root L 17 [] _ c h, ?_⟩
      generalize strOf d = x at *
      rw [chainGo] at h
      split at h
      · cases h; exact ⟨x, [], rfl, .inl rfl⟩
      · split at h
        · cases h
        · split at h
          · cases h
          · obtain ⟨tl, rfl, ht⟩ := go_tail L x 16 17 [parL L x] (parL L x) c (by omega) (by simp) h
            refine ⟨x, tl, rfl, .inr ?_⟩
            obtain ⟨r, hr⟩ := go_more L 17 _ _ tl ht
            refine ⟨parL L x, r, hr, ?_⟩
            have hp : Cn (parL L x) := cn_par hk hcn
            unfold chainF
            rw [hk, hp]
            show chainGo L 17 [strOf (parL L x).data.toList] (strOf (parL L x).data.toList) = _
            rw [strOf_self]
            exact ht
/-- What a list comes to, edit by edit. -/
noncomputable def stepE (H : List ByteArray) (e : Bool × ByteArray) : List ByteArray := if e.1 = true then outL H e.2 ++ [e.2] else outL H e.2
/-- A list that holds each entry once, just where the last edit says so. -/
structure Holds (H : List ByteArray) (eds : List (Bool × ByteArray)) : Prop where
  nd : H.Nodup
  mem : ∀ x, x ∈ H ↔ lastE eds x = some true
theorem Holds.step {H : List ByteArray} {eds : List (Bool × ByteArray)} (h : Holds H eds) (e : Bool × ByteArray) : Holds (stepE H e) (eds ++ [e]) := by
  have hno : (outL H e.2).Nodup := h.nd.filter _
  constructor
  · unfold stepE
    split
    · rw [List.nodup_append]
      refine ⟨hno, by simp, fun a ha b hb => ?_⟩
      rw [List.mem_singleton] at hb
      subst hb
      exact ((mem_outL _ _ _).1 ha).2
    · exact hno
  · intro x
    rw [lastE_snoc]
    by_cases hx : e.2 = x
    · subst hx
      rw [if_pos rfl]
      unfold stepE
      split
      · rename_i h1; simp [h1]
      · rename_i h1; simp [mem_outL, h1]
    · rw [if_neg hx, ← h.mem x]
      have hx2 : ¬ x = e.2 := fun q => hx q.symm
      unfold stepE
      split
      · simp [mem_outL, hx2]
      · simp [mem_outL, hx2]
theorem stepE_le (H : List ByteArray) (e : Bool × ByteArray) : (stepE H e).length ≤ H.length + 1 := by
  have := outL_le H e.2
  unfold stepE
  split
  · simp; omega
  · omega
/-- Two lists that hold the same are as long. -/
theorem Holds.same {H l : List ByteArray} {eds : List (Bool × ByteArray)} (h : Holds H eds) (hr : Rising l) (hm : ∀ x, x ∈ l ↔ lastE eds x = some true) : l.length = H.length ∧ ∀ x ∈ l, x ∈ H := by
  have hp : l.Perm H := (List.perm_ext_iff_of_nodup (rising_nodup hr) h.nd).2 (fun x => by rw [hm x, h.mem x])
  exact ⟨hp.length_eq, fun x hx => hp.mem_iff.1 hx⟩
theorem eds_cons (L : List Sec) (x : ByteArray) (tl : List ByteArray) : edsF L (x :: tl) = edsF L tl ++ edOf L x := by
  unfold edsF
  simp
end Go.Proofs.YtlnejmmhhmmomaaGreatDoor
namespace Go.Proofs.YtlnejmmhhmmomaaGreatDoor
open Go.RowKit Go.Shelf Go.Lib
/-- A rising list of what edits come to. -/
structure RiseH (X : List ByteArray) (eds : List (Bool × ByteArray)) : Prop where
  up : Rising X
  mem : ∀ x, x ∈ X ↔ lastE eds x = some true
theorem RiseH.nil : RiseH [] [] := ⟨List.Pairwise.nil, fun x => by simp [lastE]⟩
theorem RiseH.put {X Y : List ByteArray} {eds : List (Bool × ByteArray)} (h : RiseH X eds) {e : Bool × ByteArray} (he : e.1 = true) (hY : Ins X e.2 Y) : RiseH Y (eds ++ [e]) := ⟨hY.up, fun x => by
  rw [lastE_snoc, hY.mem x]
  by_cases hx : e.2 = x
  · rw [if_pos hx, he]; simp [hx.symm]
  · have hx2 : ¬ x = e.2 := fun q => hx q.symm
    rw [if_neg hx, ← h.mem x]; simp [hx2]⟩
theorem RiseH.out {X : List ByteArray} {eds : List (Bool × ByteArray)} (h : RiseH X eds) {e : Bool × ByteArray} (he : e.1 = false) : RiseH (outL X e.2) (eds ++ [e]) := ⟨h.up.filter _, fun x => by
  rw [lastE_snoc, mem_outL]
  by_cases hx : e.2 = x
  · rw [if_pos hx, he]; simp [hx.symm]
  · have hx2 : ¬ x = e.2 := fun q => hx q.symm
    rw [if_neg hx, ← h.mem x]; simp [hx2]⟩
def RefResolve (w' : World) (L : List Sec) (t : ByteArray) (e : Ending) : Prop := match chainF L t with
  | .bad i => e = .returned (.tuple #[.slice none 0 0, .int .i64 (refNo i)])
  | .ok c => ∃ (a : Option Addr) (k : Nat) (l : List ByteArray), SA w' a l ∧ RiseH l (edsF L c) ∧ e = .returned (if 2000 < l.length then .tuple #[.slice none 0 0, .int .i64 3] else .tuple #[.slice a l.length k, .int .i64 0])
theorem edOf_at {L : List Sec} {x : ByteArray} {k : Nat} (h : k < L.length) (e : L[k].loc = x) (hn : ∀ j (h : j < L.length), j < k → L[j].loc ≠ x) : edOf L x = L[k].ed := by rw [edOf, secOf_at h e hn]
theorem edOf_no {L : List Sec} {x : ByteArray} (hn : ∀ j (h : j < L.length), L[j].loc ≠ x) : edOf L x = [] := by rw [edOf, secOf_none hn]
theorem eds_drop {L : List Sec} {cc : List ByteArray} {m : Nat} (h : m < cc.length) : edsF L (cc.drop m) = edsF L (cc.drop (m + 1)) ++ edOf L cc[m] := by rw [List.drop_eq_getElem_cons h, eds_cons]
set_option maxRecDepth 10000 in
set_option maxHeartbeats 6400000 in
theorem refResolve_any (L : List Sec) (a : Option Addr) (c : Nat) (t : ByteArray) (w : World) (hl : L.length ≤ 1000000) (hb : ∀ s ∈ L, s.ed.length ≤ 2000000) (hz : ∀ s ∈ L, ∀ e ∈ s.ed, e.2.size ≤ 4194400) (ha : XA w a L) :
    Calls Tryz.prog 7 #[.agg #[.slice a L.length c], .string t] w fun e w' => RefResolve w' L t e ∧ Below w.heap.size w w' := by
  obtain ⟨w0, hw0⟩ : ∃ w0, w0 = w.alloc (.cells #[.slice a L.length c] 24) := ⟨_, rfl⟩
  have hB0 : Below w.heap.size w w0 := by rw [hw0]; exact (Below.refl _ _).alloc (Nat.le_refl _) _
  have hX0 : w0.heap[w.heap.size]? = some (.cells #[.slice a L.length c] 24 (0, 0)) := by rw [hw0]; exact heap_alloc_new w _
  have hs0 : w0.heap.size = w.heap.size + 1 := by rw [hw0]; simp
  have HX : Hid (∀ W : World, Below w0.heap.size w0 W → W.cell? ⟨w.heap.size, 0, none⟩ = some (.slice a L.length c)) := hid0 (fun W hW => bun_cell ((hW.block w.heap.size (by omega)).trans hX0))
  have HXA : Hid (∀ W : World, Below w0.heap.size w0 W → XA W a L) := hid0 (fun W hW => (ha.later hB0).later hW)
  have HCh := hid0 (refChain_any L a c t w0 hl (fun s hs => Nat.le_trans (hb s hs) (by decide)) hz (ha.later hB0))
  have HSc : Hid (∀ (x : ByteArray) (r : Int), IdxIs L x r → ∀ W : World, Below w0.heap.size w0 W → Calls Tryz.prog 19 #[.agg #[.slice a L.length c], .string x] W fun e w' => e = .returned (.int .i64 r) ∧ Below W.heap.size W w') := hid0 (fun x r hr W hW => (refSection_any L a c x W hl (HXA.out W hW)).mono (fun e w' h => by
    obtain ⟨⟨r', rfl, hr'⟩, h2⟩ := h
    rw [idx_uniq hr hr']
    exact ⟨rfl, h2⟩))
  have HBD := hid0 hb
  have HB0 := hid0 hB0
  have x0 := HX.out w0 (Below.refl _ _)
  have hfold := hw0.symm
  clear hw0 hs0 hB0 hX0 ha hb hz
  unfold RefResolve
  cases hch : chainF L t with
  | bad i =>
    rw [hch] at HCh
    simp only
    go_enter Tryz.func7, Tryz.ntmps7
    have hi := refNo_ne i ((chainF_ok L t).1 i hch)
    go_wp2_with (first
      | (go_at_call 12; refine HCh.out.mono ?_; rintro e w1 ⟨hgo, hb1⟩; unfold RefChain at hgo; subst hgo; have HB1 := hid0 hb1; clear hb1)
      | fail)
    go_returns
    exact ⟨rfl, Below.later HB0.out HB1.out⟩
  | ok cc =>
    rw [hch] at HCh
    simp only
    obtain ⟨_, hc16, _, _⟩ := chain_parts hch
    clear hch
    go_enter Tryz.func7, Tryz.ntmps7
    go_wp2_with (first
      | (go_at_call 12; refine HCh.out.mono ?_; rintro e w1 ⟨hgo, hb1⟩; unfold RefChain at hgo; obtain ⟨v, rfl, ho⟩ := hgo; obtain ⟨ac, kc, rfl, hsc, _⟩ := ho.sa; have HSC := hid0 hsc; have HB1 := hid0 hb1; clear ho hsc hb1)
      | fail)
    go_loopw [8, 9] (fun v i wr => ∃ (k n : Nat) (X : List ByteArray) (a' : Option Addr) (c' : Nat), k ≤ cc.length ∧ i = .int .i64 ((k : Int) - 1) ∧ v = .slice a' n c' ∧ n ≤ (16 - k) * 2000000 ∧ Hid (X.length = n) ∧ Hid (SA wr a' X) ∧ Hid (RiseH X (edsF L (cc.drop k))) ∧ Hid (Below w1.heap.size w1 wr)) (fun _ i _ => (intOf i + 1).toNat)
    case atStart => exact ⟨cc.length, 0, [], none, 0, Nat.le_refl _, by go_num, rfl, Nat.zero_le _, hid0 rfl, hid0 ⟨fun k h => absurd h (Nat.not_lt_zero _)⟩, hid0 (by rw [List.drop_length]; exact RiseH.nil), hid0 (Below.refl _ _)⟩
    case round =>
      obtain ⟨k, n, X, a', c', hk, rfl, rfl, hn, HLn, HSX, HRi, HB⟩ := hrel
      cases k with
      | zero =>
        have hneg : ¬ (0 : Int) ≤ ((0 : Nat) : Int) - 1 := by omega
        have HRe : Hid (RiseH X (edsF L cc)) := hid0 HRi.out
        obtain rfl := HLn.out
        by_cases h2k : (2000 : Int) < (X.length : Int)
        · have HV : Hid (2000 < X.length) := hid0 (by omega)
          clear HRi HLn
          go_wp2
          go_returns
          exact ⟨⟨a', c', X, HSX.out, HRe.out, by rw [if_pos HV.out]; rfl⟩, Below.later HB0.out (Below.later HB1.out HB.out)⟩
        · have HV : Hid (¬ 2000 < X.length) := hid0 (by omega)
          clear HRi HLn
          go_wp2
          go_returns
          exact ⟨⟨a', c', X, HSX.out, HRe.out, by rw [if_neg HV.out]; rfl⟩, Below.later HB0.out (Below.later HB1.out HB.out)⟩
      | succ m =>
        have hm : ((m + 1 : Nat) : Int) - 1 = (m : Int) := by omega
        rw [hm]
        have hm0 : (0 : Int) ≤ (m : Int) := by omega
        have hmc : m < cc.length := by omega
        have hmI : (m : Int) < (cc.length : Int) := by omega
        obtain ⟨r, hr⟩ := idx_ex L cc[m]
        obtain ⟨b, off, rfl, hbl, _⟩ := HSC.out.at' m hmc
        obtain ⟨wz, hwz⟩ : ∃ wz, wz = wr := ⟨_, rfl⟩
        subst hwz
        have HBz : Hid (Below w0.heap.size w0 wz) := hid0 (Below.later HB1.out HB.out)
        have HS : Hid (∀ W : World, Below wz.heap.size wz W → W.cell? ⟨w.heap.size, 0, none⟩ = some (.slice a L.length c) ∧ W.cell? ⟨b, off + m, none⟩ = some (.string cc[m]) ∧ Below wz.heap.size wz W) := hid0 (fun W hW => ⟨HX.out W (Below.later HBz.out hW), by
          obtain ⟨b2, o2, e2, _, c2⟩ := ((HSC.out.below HB.out).below hW).at' m hmc
          cases e2
          exact c2, hW⟩)
        have HSe : Hid (∀ W : World, Below wz.heap.size wz W → Calls Tryz.prog 19 #[.agg #[.slice a L.length c], .string cc[m]] W fun e w' => e = .returned (.int .i64 r) ∧ Below wz.heap.size wz w') := hid0 (fun W hW => (HSc.out _ r hr W (Below.later HBz.out hW)).mono (fun e w' h => ⟨h.1, Below.later hW h.2⟩))
        have HED : Hid (edsF L (cc.drop m) = edsF L (cc.drop (m + 1)) ++ edOf L cc[m]) := hid0 (eds_drop hmc)
        have HR := hid0 hr
        obtain ⟨t0, t1, t2⟩ := HS.out wz (Below.refl _ _)
        clear hr hm
        generalize cc[m] = x at *
        go_wp2
        go_region_held3 (fun W => W.cell? ⟨w.heap.size, 0, none⟩ = some (.slice a L.length c) ∧ W.cell? ⟨b, off + m, none⟩ = some (.string x) ∧ Below wz.heap.size wz W) (first | exact HS.out _ (by assumption) | (go_split_ands; exact HS.out _ (by assumption)) | (go_split_ands; exact HS.out _ (by go_grown)))
          (first | (go_at_call 19; go_split_ands; refine (HSe.out _ (by assumption)).mono ?_; rintro e w2 ⟨rfl, hb2⟩))
        go_split_ands
        have HB2 : Hid (Below wz.heap.size wz w2) := hid0 (by assumption)
        clear t0 t1 t2
        rcases HR.out with ⟨q, hq, rfl, hql, hqn⟩ | ⟨rfl, hqn⟩
        · have hq0 : ¬ (q : Int) < 0 := by omega
          have hq1 : (0 : Int) ≤ (q : Int) := by omega
          have hqI : (q : Int) < (L.length : Int) := by omega
          obtain ⟨gb, gof, ae, ce, rfl, hgl, d0, d1, d2, hea⟩ := (HXA.out w2 (Below.later HBz.out HB2.out)).at' q hq
          obtain ⟨t0, _, _⟩ := HS.out w2 HB2.out
          have HE2 : Hid (edsF L (cc.drop m) = edsF L (cc.drop (m + 1)) ++ L[q].ed) := hid0 (by rw [HED.out, edOf_at hq hql hqn])
          have hed : L[q].ed.length ≤ 2000000 := HBD.out _ (List.getElem_mem hq)
          have HEA : Hid (∀ W : World, Below w2.heap.size w2 W → EA W ae L[q].ed) := hid0 (fun W hW => hea.later hW)
          clear HR HED hql hqn hea d0 d1
          generalize L[q].ed = ed at *
          go_wp2
          go_loopw [8, 12] (fun v i wr => ∃ (j n' : Nat) (X' : List ByteArray) (a2 : Option Addr) (c2 : Nat), j ≤ ed.length ∧ i = .int .i64 (j : Int) ∧ v = .slice a2 n' c2 ∧ n' ≤ n + j ∧ Hid (X'.length = n') ∧ Hid (SA wr a2 X') ∧ Hid (RiseH X' (edsF L (cc.drop (m + 1)) ++ ed.take j)) ∧ Hid (Below w2.heap.size w2 wr)) (fun _ i _ => ed.length - (intOf i).toNat)
          case atStart => exact ⟨0, n, X, a', c', Nat.zero_le _, rfl, rfl, by omega, HLn, hid0 (HSX.out.below HB2.out), hid0 (by rw [List.take_zero, List.append_nil]; exact HRi.out), hid0 (Below.refl _ _)⟩
          case round =>
            obtain ⟨j, n', X', a2, c2, hj, rfl, rfl, hn', HL', HS', HR', HB'⟩ := hrel
            by_cases hlt : j < ed.length
            · have hjI : (j : Int) < (ed.length : Int) := by omega
              have hj0 : (0 : Int) ≤ (j : Int) := by omega
              obtain ⟨b2, o2, rfl, hbl2, e0, e1⟩ := (HEA.out wr HB'.out).at' j hlt
              have HTK : Hid (ed.take (j + 1) = ed.take j ++ [ed[j]]) := hid0 (by rw [List.take_add_one, List.getElem?_eq_getElem hlt]; rfl)
              cases hb1 : ed[j].1 with
              | true =>
                rw [hb1] at e0
                have HW := refWith_any X' a2 c2 ed[j].2 wr (by have := HL'.out; omega) HR'.out.up HS'.out
                rw [HL'.out] at HW
                have HWH := hid0 HW
                have HNx : Hid (∀ Y, Ins X' ed[j].2 Y → RiseH Y (edsF L (cc.drop (m + 1)) ++ ed.take (j + 1))) := hid0 (fun Y hY => by rw [HTK.out, ← List.append_assoc]; exact HR'.out.put hb1 hY)
                clear HW hb1 HTK
                generalize ed[j].2 = en at *
                go_wp2_with (first
                  | (go_at_call 20; refine HWH.out.mono ?_; rintro e w7 ⟨⟨a7, c7, Y, rfl, hs7, hi7, hl7⟩, hb7⟩; have HS7 := hid0 hs7; have HI7 := hid0 (HNx.out Y hi7); have HB7 := hid0 (Below.later HB'.out hb7); clear hs7 hb7 hi7)
                  | fail)
                go_roundw
                case rel => exact ⟨j + 1, Y.length, Y, a7, c7, by omega, by go_num, rfl, by omega, hid0 rfl, HS7, HI7, HB7⟩
                case measure => simp [intOf]; omega
              | false =>
                rw [hb1] at e0
                have HW := refWithout_any X' a2 c2 ed[j].2 wr (by have := HL'.out; omega) HS'.out
                rw [HL'.out] at HW
                have HWH := hid0 HW
                have HNx : Hid (RiseH (outL X' ed[j].2) (edsF L (cc.drop (m + 1)) ++ ed.take (j + 1))) := hid0 (by rw [HTK.out, ← List.append_assoc]; exact HR'.out.out hb1)
                have hle : (outL X' ed[j].2).length ≤ n' := by have := outL_le X' ed[j].2; have := HL'.out; omega
                clear HW hb1 HTK
                generalize outL X' ed[j].2 = Y at *
                generalize ed[j].2 = en at *
                go_wp2_with (first
                  | (go_at_call 21; refine HWH.out.mono ?_; rintro e w7 ⟨⟨v7, rfl, ho⟩, hb7⟩; obtain ⟨a7, c7, rfl, hs7, _⟩ := ho.sa; have HS7 := hid0 hs7; have HB7 := hid0 (Below.later HB'.out hb7); clear ho hs7 hb7)
                  | fail)
                go_roundw
                case rel => exact ⟨j + 1, Y.length, Y, a7, c7, by omega, by go_num, rfl, by omega, hid0 rfl, HS7, HNx, HB7⟩
                case measure => simp [intOf]; omega
            · have hjI : ¬ (j : Int) < (ed.length : Int) := by omega
              have HRx : Hid (RiseH X' (edsF L (cc.drop m))) := hid0 (by have h := HR'.out; rw [List.take_of_length_le (by omega), ← HE2.out] at h; exact h)
              have hn2 : n' ≤ (16 - m) * 2000000 := by omega
              clear HR'
              go_wp2
              go_roundw
              case rel => exact ⟨m, n', X', a2, c2, by omega, by go_num, rfl, hn2, HL', HS', HRx, hid0 (Below.later HB.out (Below.later HB2.out HB'.out))⟩
              case measure => simp [intOf]
        · have HV : Hid (edsF L (cc.drop m) = edsF L (cc.drop (m + 1))) := hid0 (by rw [HED.out, edOf_no hqn, List.append_nil])
          have hn2 : n ≤ (16 - m) * 2000000 := Nat.le_trans hn (Nat.mul_le_mul_right _ (by omega))
          clear hqn HR HED
          go_wp2
          go_roundw
          case rel => exact ⟨m, n, X, a', c', by omega, by go_num, rfl, hn2, HLn, hid0 (HSX.out.below HB2.out), hid0 (by rw [HV.out]; exact HRi.out), hid0 (Below.later HB.out HB2.out)⟩
          case measure => simp [intOf]
end Go.Proofs.YtlnejmmhhmmomaaGreatDoor
namespace Go.Proofs.YtlnejmmhhmmomaaGreatDoor
open Go.RowKit Go.Shelf Go.Lib
theorem rise_uniq : ∀ (l m : List ByteArray), Rising l → Rising m → (∀ x, x ∈ l ↔ x ∈ m) → l = m
  | [], [], _, _, _ => rfl
  | [], y :: m, _, _, h => by have := (h y).2 (by simp); simp at this
  | x :: l, [], _, _, h => by have := (h x).1 (by simp); simp at this
  | x :: l, y :: m, hl, hm, h => by
    have hl' := List.pairwise_cons.1 hl
    have hm' := List.pairwise_cons.1 hm
    have hxy : x = y := by
      rcases List.mem_cons.1 ((h x).1 (by simp)) with e | hx
      · exact e
      · rcases List.mem_cons.1 ((h y).2 (by simp)) with e | hy
        · exact e.symm
        · exact absurd (List.lt_trans (hm'.1 x hx) (hl'.1 y hy)) (List.lt_irrefl _)
    subst hxy
    have hnl : ¬ x ∈ l := fun q => absurd (hl'.1 x q) (List.lt_irrefl _)
    have hnm : ¬ x ∈ m := fun q => absurd (hm'.1 x q) (List.lt_irrefl _)
    congr 1
    refine rise_uniq l m hl'.2 hm'.2 (fun z => ?_)
    constructor
    · intro hz
      rcases List.mem_cons.1 ((h z).1 (List.mem_cons_of_mem _ hz)) with rfl | q
      · exact absurd hz hnl
      · exact q
    · intro hz
      rcases List.mem_cons.1 ((h z).2 (List.mem_cons_of_mem _ hz)) with rfl | q
      · exact absurd hz hnm
      · exact q
theorem rise_same {l m : List ByteArray} {eds : List (Bool × ByteArray)} (hl : Rising l) (hm : ∀ x, x ∈ l ↔ lastE eds x = some true) (h : RiseH m eds) : l = m :=
  rise_uniq l m hl h.up (fun x => by rw [hm x, h.mem x])
end Go.Proofs.YtlnejmmhhmmomaaGreatDoor
namespace Go.Proofs.YtlnejmmhhmmomaaGreatDoor
open Go.RowKit Go.Shelf Go.Lib
def flE (e : Bool × ByteArray) : Bool × ByteArray := (!e.1, e.2)
def flp (s : Sec) : Sec := ⟨s.loc, s.par, s.ed.map flE⟩
def edA (x : SecAt) (l : List (Bool × ByteArray)) : SecAt := ⟨⟨x.s.loc, x.s.par, l⟩, x.blk, x.cap⟩
theorem cellsE_set (l : List (Bool × ByteArray)) : ∀ (j : Nat) (h : j < l.length) (b : Bool), (cellsE l).set (j * 2) (.bool b) = cellsE (l.set j (b, l[j].2)) := by
  induction l with
  | nil => intro j h; simp at h
  | cons u l ih =>
    intro j h b
    have e : cellsE (u :: l) = .bool u.1 :: .string u.2 :: cellsE l := rfl
    cases j with
    | zero => rw [e]; rfl
    | succ j =>
      have h2 := ih j (by simpa using h) b
      rw [e, show (j + 1) * 2 = (j * 2) + 1 + 1 by omega]
      simp only [List.set_cons_succ, List.getElem_cons_succ]
      rw [h2]
      rfl
theorem cellsX_ed (S : List SecAt) : ∀ (k : Nat) (h : k < S.length) (l : List (Bool × ByteArray)), l.length = S[k].s.ed.length → cellsX (S.set k (edA S[k] l)) = cellsX S := by
  induction S with
  | nil => intro k h; simp at h
  | cons u r ih =>
    intro k h l hl
    have e : ∀ (v : SecAt) q, cellsX (v :: q) = .string v.s.loc :: .string v.s.par :: .slice (some ⟨v.blk, 0, none⟩) v.s.ed.length v.cap :: cellsX q := fun _ _ => rfl
    cases k with
    | zero =>
      simp only [List.set_cons_zero, List.getElem_cons_zero] at hl ⊢
      rw [e, e]
      simp only [edA, hl]
    | succ k =>
      have h2 := ih k (by simpa using h) l (by simpa using hl)
      simp only [List.set_cons_succ, List.getElem_cons_succ]
      rw [e, e, h2]
theorem blk_set {S : List SecAt} (k : Nat) (hk : k < S.length) (y : SecAt) (hy : y.blk = S[k].blk) : (S.set k y).map SecAt.blk = S.map SecAt.blk := by
  rw [List.map_set, hy]
  exact List.ext_getElem (by simp) (fun i h1 h2 => by rw [List.getElem_set]; split <;> simp_all)
theorem blk_of {S T : List SecAt} (h : S.map SecAt.blk = T.map SecAt.blk) (k : Nat) (hk : k < S.length) (hk2 : k < T.length) : S[k].blk = T[k].blk := by
  have h1 : (S.map SecAt.blk)[k]? = (T.map SecAt.blk)[k]? := by rw [h]
  simpa [hk, hk2] using h1
theorem Giv.secCell {w : World} {lo g n cap m : Nat} {S : List SecAt} (h : Giv w lo (.slice (some ⟨g, 0, none⟩) n cap) S m) (hn : n = S.length + m) (k : Nat) (hk : k < S.length) : w.cell? ⟨g, k * 3 + 2, none⟩ = some (.slice (some ⟨S[k].blk, 0, none⟩) S[k].s.ed.length S[k].cap) := by
  subst hn
  have hl := cellsX_length S
  rw [World.ownsRow.cellAt h.row _ (by omega), List.getElem?_append_left (by omega)]
  exact (cellsX_at S k hk).2.2
theorem Giv.edCell {w : World} {lo : Nat} {v : Value} {S : List SecAt} {m : Nat} (h : Giv w lo v S m) (k : Nat) (hk : k < S.length) (j : Nat) (hj : j < S[k].s.ed.length) : w.cell? ⟨S[k].blk, j * 2, none⟩ = some (.bool S[k].s.ed[j].1) ∧ w.frozen? ⟨S[k].blk, j * 2, none⟩ = false := by
  have h0 := h.ed S[k] (List.getElem_mem hk)
  have hl : (S[k].s.ed ++ marksE 64).length = S[k].s.ed.length + 64 := by rw [List.length_append, marksE, List.length_replicate]
  have c := (cellsE_at (S[k].s.ed ++ marksE 64) j (by omega)).1
  rw [List.getElem_append_left hj] at c
  exact ⟨by rw [World.ownsRow.cellAt h0 _ (by omega)]; exact c, World.ownsRow.frozenAt h0 _⟩
theorem Giv.edSet {w : World} {lo : Nat} {v : Value} {S : List SecAt} {m : Nat} (h : Giv w lo v S m) (k : Nat) (hk : k < S.length) (j : Nat) (hj : j < S[k].s.ed.length) (b : Bool) : Giv (w.setCell ⟨S[k].blk, j * 2, none⟩ (.bool b)) lo v (S.set k (edA S[k] (S[k].s.ed.set j (b, S[k].s.ed[j].2)))) m := by
  have h0 := h.ed S[k] (List.getElem_mem hk)
  have hne := h.ne S[k] (List.getElem_mem hk)
  have hlen : (S[k].s.ed ++ marksE 64).length = S[k].s.ed.length + 64 := by rw [List.length_append, marksE, List.length_replicate]
  refine ⟨?_, fun x hx => ?_, fun x hx => ?_, pw_set h.pw k hk _ rfl⟩
  · rw [List.length_set, cellsX_ed S k hk _ (by rw [List.length_set])]
    exact own_blk h.row (fun q hq => Below.heap_setCell w _ _ q (fun e => hne (by rw [← show q = S[k].blk from e]; exact hq)))
  · obtain ⟨i, hi, rfl⟩ := List.getElem_of_mem hx
    rw [List.length_set] at hi
    rw [List.getElem_set]
    split
    · have h1 := (World.ownsRow.stored h0 (j * 2) (.bool b)).1
      rw [cellsE_set _ j (by omega), List.set_append_left _ _ hj] at h1
      simp only [edA, List.length_set]
      rw [List.getElem_append_left hj] at h1
      exact h1
    · rename_i hik
      refine own_blk (h.ed S[i] (List.getElem_mem hi)) (fun q hq => ?_)
      cases hq
      refine Below.heap_setCell w _ _ S[i].blk (fun e => ?_)
      have hp := List.pairwise_iff_getElem.1 h.pw
      rcases Nat.lt_or_gt_of_ne hik with h3 | h3
      · exact hp k i hk hi h3 e.symm
      · exact hp i k hi hk h3 e
  · rcases List.mem_or_eq_of_mem_set hx with h2 | h2
    · exact h.ne x h2
    · rw [h2]; exact hne
/-- The first j of a list turned round. -/
def flN (l : List (Bool × ByteArray)) (j : Nat) : List (Bool × ByteArray) := (l.take j).map flE ++ l.drop j
theorem flN_length (l : List (Bool × ByteArray)) (j : Nat) : (flN l j).length = l.length := by simp [flN]; omega
theorem flN_at (l : List (Bool × ByteArray)) (j : Nat) (h : j < l.length) : (flN l j)[j]'(by rw [flN_length]; exact h) = l[j] := by
  unfold flN
  rw [List.getElem_append_right (by simp; omega)]
  simp only [List.getElem_drop, List.length_map, List.length_take]
  congr 1
  omega
theorem flN_step (l : List (Bool × ByteArray)) (j : Nat) (h : j < l.length) : (flN l j).set j (flE l[j]) = flN l (j + 1) := by
  unfold flN
  rw [List.set_append_right _ _ (by simp; omega)]
  simp only [List.length_map, List.length_take]
  rw [show j - min j l.length = 0 by omega, List.drop_eq_getElem_cons h, List.set_cons_zero, List.take_succ_eq_append_getElem h, List.map_append, List.append_assoc]
  rfl
/-- The first k sections turned round, of the next one j edits. -/
def flS (L : List Sec) (k j : Nat) : List Sec := (L.take k).map flp ++ (match L[k]? with
  | some s => [(⟨s.loc, s.par, flN s.ed j⟩ : Sec)]
  | none => []) ++ L.drop (k + 1)
theorem flS_zero (L : List Sec) (k : Nat) : flS L k 0 = (L.take k).map flp ++ L.drop k := by
  unfold flS
  by_cases h : k < L.length
  · rw [List.getElem?_eq_getElem h, List.drop_eq_getElem_cons h, List.append_assoc]
    rfl
  · rw [List.getElem?_eq_none (by omega), List.drop_eq_nil_of_le (by omega), List.drop_eq_nil_of_le (by omega)]
    simp
theorem flS_length (L : List Sec) (k j : Nat) (h : k < L.length) : (flS L k j).length = L.length := by
  unfold flS
  rw [List.getElem?_eq_getElem h]
  simp
  omega
theorem flS_at (L : List Sec) (k j : Nat) (h : k < L.length) : (flS L k j)[k]? = some ⟨L[k].loc, L[k].par, flN L[k].ed j⟩ := by
  unfold flS
  rw [List.getElem?_eq_getElem h, List.append_assoc, List.getElem?_append_right (by simp; omega)]
  simp only [List.length_map, List.length_take]
  rw [show k - min k L.length = 0 by omega]
  rfl
theorem flS_set (L : List Sec) (k j : Nat) (h : k < L.length) (i : Nat) : (flS L k j).set k ⟨L[k].loc, L[k].par, flN L[k].ed i⟩ = flS L k i := by
  unfold flS
  rw [List.getElem?_eq_getElem h, List.append_assoc, List.set_append_right _ _ (by simp; omega)]
  simp only [List.length_map, List.length_take]
  rw [show k - min k L.length = 0 by omega, List.append_assoc]
  rfl
theorem flS_full (L : List Sec) (k : Nat) (h : k < L.length) : flS L k L[k].ed.length = flS L (k + 1) 0 := by
  rw [flS_zero]
  unfold flS
  rw [List.getElem?_eq_getElem h, List.take_succ_eq_append_getElem h, List.map_append]
  have e : flN L[k].ed L[k].ed.length = L[k].ed.map flE := by unfold flN; rw [List.take_of_length_le (Nat.le_refl _), List.drop_eq_nil_of_le (Nat.le_refl _), List.append_nil]
  simp [e, flp]
theorem flS_ed {L : List Sec} {k j : Nat} (h : k < L.length) {S : List SecAt} (hS : S.map (·.s) = flS L k j) (hk : k < S.length) : S[k].s = ⟨L[k].loc, L[k].par, flN L[k].ed j⟩ := by
  have h2 := flS_at L k j h
  rw [← hS, List.getElem?_map, List.getElem?_eq_getElem hk] at h2
  simpa using h2
theorem flS_step {L : List Sec} {k j : Nat} (h : k < L.length) (hj : j < L[k].ed.length) {S : List SecAt} (hS : S.map (·.s) = flS L k j) (hk : k < S.length) (hj2 : j < S[k].s.ed.length) : (S.set k (edA S[k] (S[k].s.ed.set j (!S[k].s.ed[j].1, S[k].s.ed[j].2)))).map (·.s) = flS L k (j + 1) := by
  have e := flS_ed h hS hk
  have e2 : S[k].s.ed = flN L[k].ed j := by rw [e]
  have e3 : S[k].s.ed[j] = L[k].ed[j] := by
    have := flN_at L[k].ed j hj
    rw [← this]
    congr 1
  have e4 : S[k].s.ed.set j (!S[k].s.ed[j].1, S[k].s.ed[j].2) = flN L[k].ed (j + 1) := by
    rw [e3, e2]
    exact flN_step L[k].ed j hj
  rw [List.map_set, hS, e4]
  have e5 : (edA S[k] (flN L[k].ed (j + 1))).s = ⟨L[k].loc, L[k].par, flN L[k].ed (j + 1)⟩ := by simp only [edA]; rw [e]
  rw [e5]
  exact flS_set L k j h (j + 1)
end Go.Proofs.YtlnejmmhhmmomaaGreatDoor
namespace Go.Proofs.YtlnejmmhhmmomaaGreatDoor
open Go.RowKit Go.Shelf Go.Lib
/-- One answer for both. -/
structure ResIs (L : List Sec) (t : ByteArray) (r : CR) : Prop where
  go : ∀ (A : Nat → Addr) (base : Nat) (w' : World) (e : Ending), GoResolve A base w' L t e → ∃ v a cap, e = .returned (.tuple #[v, errR A r]) ∧ v = .slice a (lstR r).length cap ∧ SA w' a (lstR r) ∧ OwnS w' base v (lstR r)
  ref : ∀ (w' : World) (e : Ending), RefResolve w' L t e → ∃ a cap, e = .returned (.tuple #[.slice a (lstR r).length cap, .int .i64 (numR r)]) ∧ SA w' a (lstR r)
  lt : ∀ i, r = .bad i → i < 11
  le : (lstR r).length ≤ 2000
theorem sa_none (w : World) : SA w none [] := ⟨fun _ hk => absurd hk (Nat.not_lt_zero _)⟩
theorem res_ex (L : List Sec) (t : ByteArray) : ∃ r : CR, ResIs L t r := by
  cases hc : chainF L t with
  | bad i =>
    refine ⟨.bad i, fun A base w' e h => ?_, fun w' e h => ?_, fun j hj => ?_, by simp [lstR]⟩
    · unfold GoResolve at h
      rw [hc] at h
      exact ⟨.slice none 0 0, none, 0, h, rfl, sa_none _, World.ownsRow_nil _ _ _ _⟩
    · unfold RefResolve at h
      rw [hc] at h
      exact ⟨none, 0, h, sa_none _⟩
    · cases hj
      exact (chainF_ok L t).1 i hc
  | ok c =>
    by_cases hx : ∃ l, RiseH l (edsF L c)
    · obtain ⟨l, hl⟩ := hx
      by_cases h2 : 2000 < l.length
      · refine ⟨.bad 2, fun A base w' e h => ?_, fun w' e h => ?_, fun j hj => ?_, by simp [lstR]⟩
        · unfold GoResolve at h
          rw [hc] at h
          obtain ⟨v, l', _, h3, h4, h5⟩ := h
          have := rise_same h3 h4 hl
          subst this
          rw [if_pos h2] at h5
          exact ⟨.slice none 0 0, none, 0, h5, rfl, sa_none _, World.ownsRow_nil _ _ _ _⟩
        · unfold RefResolve at h
          rw [hc] at h
          obtain ⟨a, k, l', _, h3, h5⟩ := h
          have := rise_same h3.up h3.mem hl
          subst this
          rw [if_pos h2] at h5
          exact ⟨none, 0, h5, sa_none _⟩
        · cases hj; omega
      · refine ⟨.ok l, fun A base w' e h => ?_, fun w' e h => ?_, (fun j hj => by cases hj), by simp only [lstR]; omega⟩
        · unfold GoResolve at h
          rw [hc] at h
          obtain ⟨v, l', ho, h3, h4, h5⟩ := h
          have := rise_same h3 h4 hl
          subst this
          rw [if_neg h2] at h5
          obtain ⟨a, k, hv, hs, _⟩ := ho.sa
          exact ⟨v, a, k, h5, hv, hs, ho⟩
        · unfold RefResolve at h
          rw [hc] at h
          obtain ⟨a, k, l', hs, h3, h5⟩ := h
          have := rise_same h3.up h3.mem hl
          subst this
          rw [if_neg h2] at h5
          exact ⟨a, k, h5, hs⟩
    · refine ⟨.bad 2, fun A base w' e h => ?_, fun w' e h => ?_, fun j hj => ?_, by simp [lstR]⟩
      · unfold GoResolve at h
        rw [hc] at h
        obtain ⟨v, l', _, h3, h4, _⟩ := h
        exact absurd ⟨l', h3, h4⟩ hx
      · unfold RefResolve at h
        rw [hc] at h
        obtain ⟨a, k, l', _, h3, _⟩ := h
        exact absurd ⟨l', h3⟩ hx
      · cases hj; omega
end Go.Proofs.YtlnejmmhhmmomaaGreatDoor
