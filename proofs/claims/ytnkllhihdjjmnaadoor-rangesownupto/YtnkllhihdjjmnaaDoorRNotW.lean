/-
  The walks of caesuraref3.not, both, caesuralaw3.own.
-/
import Derived.Test.YtnkllhihdjjmnaaDoorRNormW
import Derived.Test.YtnkllhihdjjmnaaDoorFaceW
namespace Go.Proofs.YtnkllhihdjjmnaaDoor
open Go.RowKit
set_option maxRecDepth 10000 in
set_option maxHeartbeats 400000 in
theorem refNot_any (l : List (Int × Int)) (a : Option Addr) (cap : Nat) (hl : l.length ≤ 50000000) (hm : mayL l = true) (w : World) (ha : RA w a l) :
    Calls Tryd.prog 49 #[.slice a l.length cap] w fun e w' => ∃ v o, e = .returned v ∧ OwnR w' w.heap.size v o ∧ NormF 0 o ∧ (∀ p, pts o p = (inAll p && !pts l p)) ∧ Below w.heap.size w w' := by
  obtain ⟨i0, hi, hz0, hz1, hz2⟩ := info_parts infoRange
  have HD := hidE (refNormal_any l a cap hl hm w ha)
  clear ha
  go_enter Tryd.func49, Tryd.ntmps49
  go_wp2_with (go_at_call 47; refine HD.out.mono ?_; rintro e w1 ⟨v1, q, rfl, ho1, hn1, hp1, hb1⟩; obtain ⟨aq, cq, rfl, hrq⟩ := ho1.ra)
  have hqb := (norm_len hn1 (Int.le_refl 0)).1
  have HB1 := hidE hb1
  have hs1 := hb1.size
  have HRQ := hidE hrq
  have HPQ := hidE hp1
  have HNQ := hidE hn1
  clear ho1 hn1 hp1 hb1 hrq HD
  go_loopw [4, 5, 6] (fun v t i wr => ∃ (k : Nat) (at' : Int) (o : List (Int × Int)), k ≤ q.length ∧ i = .int .i64 (k : Int) ∧ t = .int .i64 at' ∧ OwnR wr w1.heap.size v o ∧ Turned (q.take k) at' o ∧ NormF at' (q.drop k) ∧ Below w1.heap.size w1 wr) (fun _ _ i _ => q.length - (intOf i).toNat)
  case atStart => exact ⟨0, 0, [], Nat.zero_le _, rfl, rfl, OwnR.nil _ _, Turned.start, HNQ.out, Below.refl _ _⟩
  case round =>
    obtain ⟨k, at', o, hk, rfl, rfl, hown, htu, hnd, hB⟩ := hrel
    have HO := hidE hown
    have HOO : Hid (wr.ownsRow w1.heap.size 35 2 u4 o.length (cellsR o)) := hown
    have HTU := hidE htu
    have hol := (norm_len htu.norm (Int.le_refl 0)).1
    have hat0 := htu.lo
    have hat1 := htu.hi
    have HND := hidE hnd
    have hs := hB.size
    clear hown htu hnd
    by_cases hlt : k < q.length
    · have HAT := hidE (fun wr' (hb : Below w1.heap.size w1 wr') => (HRQ.out.later hb).at' k hlt)
      obtain ⟨b1, o1, rfl, d0, d1⟩ := HAT.out wr hB
      have HT := hidE (List.take_succ_eq_append_getElem hlt)
      have hdn := HND.out
      rw [List.drop_eq_getElem_cons hlt] at hdn
      generalize q[k] = r at *
      obtain ⟨lo, hi'⟩ := r
      obtain ⟨g1, g2, g3, g4⟩ := hdn
      simp only at d0 d1 g1 g2 g3
      have HST := hidE (HTU.out.step (x := (lo, hi')) g1 g2 g3)
      have HG4 := hidE (NormF.mono (a := hi' + 1) (by omega) g4)
      clear g4
      by_cases hgt : at' < lo
      · rw [if_pos (show at' < (lo, hi').1 from hgt)] at HST
        go_wp2_with (at_builtin; refine wpList_append_own _ rfl _ _ 22 rfl w1.heap.size 35 i0 (.agg #[.int .i64 0, .int .i64 0]) 2 16 Tryd.underlying22 hi hz0 hz1 hz2 rfl (by decide) _ o.length (cellsR o) rfl (HOO.out.alloc _) ⟨wr.heap.size, 0, none⟩ 1 1 [.int .i64 at', .int .i64 (lo - 1)] rfl rfl (cell2_new _ _ _ _) (by simp [Value.oneCell']) (by unfold maxLen; omega) (by omega) (by simp; omega) ?_; intro v1 w2 hown' hgrow _; have R := ownR_snoc (w := w1) (r := (at', lo - 1)) rfl HO.out (by simpa using hown') hgrow rfl hB (Nat.le_refl _); have HR1 := hidE R; obtain ⟨b2, o2, he, d2, d3⟩ := HAT.out w2 R.2; simp only [Option.some.injEq, Addr.mk.injEq, and_true] at he; obtain ⟨he1, he2⟩ := he; subst he1 he2; clear hown' hgrow R)
        go_roundw
        case rel => exact ⟨k + 1, hi' + 1, o ++ [(at', lo - 1)], by omega, by go_num, by go_num, HR1.out.1, by rw [HT.out]; exact HST.out, HG4.out, HR1.out.2⟩
        case measure => simp [intOf]; omega
      · rw [if_neg (show ¬ at' < (lo, hi').1 from hgt)] at HST
        go_wp2
        go_roundw
        case rel => exact ⟨k + 1, hi' + 1, o, by omega, by go_num, by go_num, HO.out, by rw [HT.out]; exact HST.out, HG4.out, hB⟩
        case measure => simp [intOf]; omega
    · have hki : ¬ (k : Int) < (q.length : Int) := by omega
      have hdone := HTU.out.done
      rw [List.take_of_length_le (by omega)] at hdone
      have HDN := hidE hdone
      have HW : Hid (Below w.heap.size w wr) := HB1.out.trans (hB.mono hs1)
      clear hdone
      by_cases hle : at' ≤ 1114111
      · rw [if_pos hle] at HDN
        go_wp2_with (at_builtin; refine wpList_append_own _ rfl _ _ 22 rfl w1.heap.size 35 i0 (.agg #[.int .i64 0, .int .i64 0]) 2 16 Tryd.underlying22 hi hz0 hz1 hz2 rfl (by decide) _ o.length (cellsR o) rfl (HOO.out.alloc _) ⟨wr.heap.size, 0, none⟩ 1 1 [.int .i64 at', .int .i64 (1114111)] rfl rfl (cell2_new _ _ _ _) (by simp [Value.oneCell']) (by unfold maxLen; omega) (by omega) (by simp; omega) ?_; intro v1 w2 hown' hgrow _; have R := ownR_snoc (w := w1) (r := (at', 1114111)) rfl HO.out (by simpa using hown') hgrow rfl hB (Nat.le_refl _); have HR1 := hidE R;  clear hown' hgrow R)
        go_ret
        exact ⟨_, rfl, o ++ [(at', 1114111)], HR1.out.1.base hs1, HDN.out.1, fun p => (HDN.out.2 p).trans (by rw [HPQ.out p]; rfl), HB1.out.trans (HR1.out.2.mono hs1)⟩
      · rw [if_neg hle] at HDN
        go_wp2
        go_ret
        exact ⟨_, rfl, o, HO.out.base hs1, HDN.out.1, fun p => (HDN.out.2 p).trans (by rw [HPQ.out p]; rfl), HW.out⟩
theorem RA.news {w : World} {b off : Nat} {l : List (Int × Int)} (h : RA w (some ⟨b, off, none⟩) l) : ∀ j u, (cellsR l)[j]? = some u → w.cell? ((⟨b, off, none⟩ : Addr).add j) = some u := by
  intro j u hu
  have hj : j < l.length * 2 := by rw [← cellsR_length]; exact (List.getElem?_eq_some_iff.1 hu).1
  rw [Addr.add_lit]
  obtain ⟨k, hk⟩ : ∃ k, j = k * 2 ∨ j = k * 2 + 1 := ⟨j / 2, by omega⟩
  rcases hk with rfl | rfl
  · obtain ⟨b', off', he, h1, _⟩ := h.at' k (by omega)
    simp only [Option.some.injEq, Addr.mk.injEq, and_true] at he
    obtain ⟨rfl, rfl⟩ := he
    rw [(cellsR_at l k (by omega)).1] at hu
    rw [h1]; exact hu
  · obtain ⟨b', off', he, _, h1⟩ := h.at' k (by omega)
    simp only [Option.some.injEq, Addr.mk.injEq, and_true] at he
    obtain ⟨rfl, rfl⟩ := he
    rw [(cellsR_at l k (by omega)).2] at hu
    rw [← Nat.add_assoc, h1]; exact hu
theorem cellsR_one (l : List (Int × Int)) : ∀ u ∈ cellsR l, u.oneCell' = true := by
  intro u hu
  simp only [cellsR, List.mem_flatMap, List.mem_cons, List.not_mem_nil, or_false] at hu
  obtain ⟨r, _, rfl | rfl⟩ := hu <;> rfl
theorem ownR_more {w1 : World} {base : Nat} {v' : Value} {l m : List (Int × Int)} {n k : Nat} (hn : n = l.length) (hk : k = m.length)
    (hown' : w1.ownsRow base 35 2 v' (n + k) (cellsR l ++ cellsR m)) : OwnR w1 base v' (l ++ m) := by
  subst hn hk
  unfold OwnR
  rw [List.length_append, cellsR_append]
  exact hown'
set_option maxRecDepth 10000 in
set_option maxHeartbeats 400000 in
theorem own_any (l : List (Int × Int)) (a : Option Addr) (cap : Nat) (hl : l.length ≤ 50000000) (hc : a = none → cap = 0) (w : World) (ha : RA w a l) :
    Calls Tryd.prog 21 #[.slice a l.length cap] w fun e w' => ∃ v, e = .returned v ∧ OwnR w' w.heap.size v l ∧ Below w.heap.size w w' := by
  obtain ⟨i0, hi, hz0, hz1, hz2⟩ := info_parts infoRange
  cases l with
  | nil =>
    clear ha
    rw [List.length_nil]
    cases a with
    | none =>
      obtain rfl := hc rfl
      go_enter Tryd.func21, Tryd.ntmps21
      go_wp2
      go_ret
      exact ⟨_, rfl, OwnR.nil _ _, Below.refl _ _⟩
    | some ad =>
      clear hc
      go_enter Tryd.func21, Tryd.ntmps21
      go_wp2
      go_ret
      exact ⟨_, rfl, OwnR.nil _ _, Below.refl _ _⟩
  | cons r l =>
    obtain ⟨b, off, rfl, _, _⟩ := ha.at' 0 (by simp)
    have HA := hidE ha.news
    have HL := hidE (cellsR_length (r :: l))
    have H1 := hidE (cellsR_one (r :: l))
    clear ha
    generalize hn : (r :: l).length = n at HL hl ⊢
    have HN := hidE hn
    have hn0 : 0 < n := by rw [← hn]; simp
    clear hn
    go_enter Tryd.func21, Tryd.ntmps21
    go_wp2_with (at_builtin; go_loud (refine wpList_append_own _ rfl _ _ 22 rfl w.heap.size 35 i0 (.agg #[.int .i64 0, .int .i64 0]) 2 16 Tryd.underlying22 hi hz0 hz1 hz2 rfl (by decide) _ 0 [] rfl (World.ownsRow_nil _ _ _ _) ⟨b, off, none⟩ n cap (cellsR (r :: l)) rfl HL.out HA.out H1.out (by unfold maxLen; omega) (by omega) (Nat.le_refl _) ?_; intro v1 w1 hown' hgrow _; have HO1 : Hid (OwnR w1 w.heap.size v1 (r :: l)) := (ownR_more (l := []) (m := r :: l) rfl HN.out.symm hown'); have HB1 : Hid (Below w.heap.size w w1) := ((Below.refl _ w).grown hgrow (Nat.le_refl _) (fun k hk => by cases hk)); clear hown' hgrow))
    go_ret
    exact ⟨_, rfl, HO1.out, HB1.out⟩
end Go.Proofs.YtnkllhihdjjmnaaDoor
