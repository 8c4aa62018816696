/-
  MbJM, MbJW.
-/
import Derived.Test.YtbbejfkgopcjoaaDoorNeah
namespace Go.Proofs.YtbbejfkgopcjoaaDoor
open Go.RowKit Go.Shelf
/-- Pairs of numbers in memory. -/
structure WdA (W : World) (a : Option Addr) (l : List (Nat × Nat)) : Prop where
  at' : ∀ k (h : k < l.length), ∃ b off, a = some ⟨b, off, none⟩ ∧ b < W.heap.size ∧ W.cell? ⟨b, off + k * 2, none⟩ = some (.int .i64 ((l[k]).1 : Int)) ∧ W.cell? ⟨b, off + k * 2 + 1, none⟩ = some (.int .u64 ((l[k]).2 : Int))
theorem WdA.past {W W' : World} {a : Option Addr} {l : List (Nat × Nat)} (h : WdA W a l) (hb : Below W.heap.size W W') : WdA W' a l := ⟨fun k hk => by
  obtain ⟨b, off, e, h1, h2, h3⟩ := h.at' k hk
  exact ⟨b, off, e, Nat.lt_of_lt_of_le h1 hb.size, (hb.cell (p := ⟨b, off + k * 2, none⟩) h1).trans h2, (hb.cell (p := ⟨b, off + k * 2 + 1, none⟩) h1).trans h3⟩⟩
/-- Where a list's rows end. -/
def endsN {α : Type} (L : List (List α)) : List Nat := (List.range L.length).map fun i => ((L.take (i + 1)).map List.length).sum
theorem endsN_len {α : Type} (L : List (List α)) : (endsN L).length = L.length := by unfold endsN; simp
theorem sum_take {α : Type} (L : List (List α)) {i : Nat} (hi : i < L.length) : ((L.take (i + 1)).map List.length).sum = ((L.take i).map List.length).sum + (L[i]).length := by
  rw [List.take_add_one, List.getElem?_eq_getElem hi, List.map_append, List.sum_append]; simp
theorem endsN_at {α : Type} (L : List (List α)) {i : Nat} (hi : i < L.length) : (endsN L)[i]? = some (((L.take i).map List.length).sum + (L[i]).length) := by
  unfold endsN
  rw [List.getElem?_map, List.getElem?_range hi, Option.map_some, sum_take L hi]
theorem flat_len {α : Type} : ∀ (L : List (List α)), L.flatten.length = (L.map List.length).sum
  | [] => rfl
  | x :: L => by rw [List.flatten_cons, List.length_append, flat_len L, List.map_cons, List.sum_cons]
theorem sum_le {α : Type} (L : List (List α)) (i : Nat) : ((L.take i).map List.length).sum ≤ (L.map List.length).sum := by
  have h := congrArg (fun M => (M.map List.length).sum) (List.take_append_drop i L)
  simp only [List.map_append, List.sum_append] at h
  omega
theorem flat_at {α : Type} (L : List (List α)) {i k : Nat} (hi : i < L.length) (hk : k < (L[i]).length) : L.flatten[((L.take i).map List.length).sum + k]? = some (L[i])[k] := by
  have e : L.flatten = (L.take i).flatten ++ ((L[i]) ++ (L.drop (i + 1)).flatten) := by
    rw [← List.flatten_cons, ← List.drop_eq_getElem_cons hi, ← List.flatten_append, List.take_append_drop]
  rw [e, List.getElem?_append_right (by rw [flat_len]; omega), flat_len, Nat.add_sub_cancel_left, List.getElem?_append_left hk, List.getElem?_eq_getElem hk]
/-- The rows of words: the two lists. -/
structure RwW (W : World) (vF vE : Value) (FO : List (List (Nat × Nat))) : Prop where
  it : ∃ a c, vF = .slice a FO.flatten.length c ∧ FO.flatten.length ≤ c ∧ WdA W a FO.flatten ∧ (FO.flatten = [] → a = none ∧ c = 0)
  en : ∃ a c, vE = .slice a FO.length c ∧ IA W a (nI (endsN FO))
theorem RwW.past {W W' : World} {vF vE : Value} {FO : List (List (Nat × Nat))} (h : RwW W vF vE FO) (hb : Below W.heap.size W W') : RwW W' vF vE FO := by
  obtain ⟨a, c, e, hc, h1, h0⟩ := h.it
  obtain ⟨b, d, e2, h2⟩ := h.en
  exact ⟨⟨a, c, e, hc, h1.past hb, h0⟩, b, d, e2, h2.past hb⟩
/-- A row, as slicing tells where it lies. -/
theorem WdA.row {W : World} {a : Option Addr} {FO : List (List (Nat × Nat))} {i c : Nat} (h : WdA W a FO.flatten) (hi : i < FO.length) (hc : FO.flatten.length ≤ c) {b off : Nat} (ha : FO.flatten ≠ [] → a = some ⟨b, off, none⟩) :
    WdA W (if c = ((FO.take i).map List.length).sum then a else some ⟨b, off + ((FO.take i).map List.length).sum * 2, none⟩) FO[i] := ⟨fun k hk => by
  have h1 := flat_at FO hi hk
  have h2 := (List.getElem?_eq_some_iff.1 h1).1
  obtain ⟨b', off', e, g1, g2, g3⟩ := h.at' _ h2
  have h3 : FO.flatten ≠ [] := fun e => by rw [e] at h2; simp at h2
  rw [ha h3] at e
  cases e
  have h4 : FO.flatten[((FO.take i).map List.length).sum + k] = FO[i][k] := by
    have := List.getElem?_eq_getElem h2
    rw [h1] at this
    injection this with this
    exact this.symm
  have hne : ¬ c = ((FO.take i).map List.length).sum := by omega
  rw [if_neg hne]
  refine ⟨b, _, rfl, g1, ?_, ?_⟩
  · rw [show off + ((FO.take i).map List.length).sum * 2 + k * 2 = off + (((FO.take i).map List.length).sum + k) * 2 by omega, g2, h4]
  · rw [show off + ((FO.take i).map List.length).sum * 2 + k * 2 + 1 = off + (((FO.take i).map List.length).sum + k) * 2 + 1 by omega, g3, h4]⟩
/-- Is the place q among the words of a row? -/
def inR (r : List (Nat × Nat)) (q : Nat) : Bool := r.any fun x => decide (x.1 = q / 64) && x.2.testBit (q % 64)
theorem inR_snoc (r : List (Nat × Nat)) (x : Nat × Nat) (q : Nat) : inR (r ++ [x]) q = (inR r q || (decide (x.1 = q / 64) && x.2.testBit (q % 64))) := by unfold inR; rw [List.any_append]; simp
/-- One word more. -/
theorem word_orx (h : Nat → Bool) (a x : Nat) (hx : x < 18446744073709551616) : wordOf h a ||| x = wordOf (fun q => h q || (decide (a = q / 64) && x.testBit (q % 64))) a := by
  apply Nat.eq_of_testBit_eq
  intro k
  rw [Nat.testBit_or, wordOf_bit, wordOf_bit]
  by_cases hk : k < 64
  · have e1 : (64 * a + k) / 64 = a := by omega
    have e2 : (64 * a + k) % 64 = k := by omega
    simp [hk, e1, e2]
  · have : x.testBit k = false := Nat.testBit_lt_two_pow (Nat.lt_of_lt_of_le (show x < 2 ^ 64 from hx) (Nat.pow_le_pow_right (by omega) (by omega)))
    simp [hk, this]
theorem word_orx_other (h : Nat → Bool) (a x i : Nat) (hi : i ≠ a) : wordOf (fun q => h q || (decide (a = q / 64) && x.testBit (q % 64))) i = wordOf h i := by
  apply Nat.eq_of_testBit_eq
  intro k
  rw [wordOf_bit, wordOf_bit]
  by_cases hk : k < 64
  · have e1 : (64 * i + k) / 64 = i := by omega
    have e2 : ¬ a = i := fun e => hi e.symm
    simp [hk, e1, e2]
  · simp [hk]
theorem OwnU.orx {W : World} {base g n c a x : Nat} {h : Nat → Bool} (ho : OwnU W base (.slice (some ⟨g, 0, none⟩) n c) n h) (ha : a < n) : OwnU (W.setCell ⟨g, a, none⟩ (.int .u64 (wordOf (fun q => h q || (decide (a = q / 64) && x.testBit (q % 64))) a : Int))) base (.slice (some ⟨g, 0, none⟩) n c) n (fun q => h q || (decide (a = q / 64) && x.testBit (q % 64))) := by
  have h1 := (World.ownsRow.stored ho a (.int .u64 (wordOf (fun q => h q || (decide (a = q / 64) && x.testBit (q % 64))) a : Int))).1
  have e : (wdV h n).set a (.int .u64 (wordOf (fun q => h q || (decide (a = q / 64) && x.testBit (q % 64))) a : Int)) = wdV (fun q => h q || (decide (a = q / 64) && x.testBit (q % 64))) n := by
    apply List.ext_getElem?
    intro i
    by_cases hi : i < n
    · by_cases hia : a = i
      · subst hia
        rw [List.getElem?_set_self (by rw [wdV_len]; exact ha), wdV_at _ ha]
      · rw [List.getElem?_set_ne hia, wdV_at _ hi, wdV_at _ hi, word_orx_other h a x i (fun e => hia e.symm)]
    · rw [List.getElem?_eq_none (by rw [List.length_set, wdV_len]; omega), List.getElem?_eq_none (by rw [wdV_len]; omega)]
  unfold OwnU
  rw [← e]
  exact h1
end Go.Proofs.YtbbejfkgopcjoaaDoor
namespace Go.Proofs.YtbbejfkgopcjoaaDoor
open Go.RowKit Go.Shelf
set_option maxRecDepth 10000 in
set_option maxHeartbeats 1600000 in
theorem ofW_any (J o i : Nat) (FO : List (List (Nat × Nat))) (vF vE : Value) (w : World) (c1 : w.cell? ⟨J, o, none⟩ = some vF) (c2 : w.cell? ⟨J, o + 1, none⟩ = some vE) (hr : RwW w vF vE FO) (R : List (Nat × Nat)) (hR : FO[i]? = some R) (hb : FO.flatten.length ≤ 1000000000) (hl : FO.length ≤ 1000000000) :
    Calls Tryd.prog 91 #[.pointer (some ⟨J, o, none⟩), .int .i64 (i : Int)] w fun e w' => ∃ a c, e = .returned (.slice a R.length c) ∧ (∀ V : World, RwW V vF vE FO → WdA V a R) ∧ Below w.heap.size w w' ∧ w'.heap = w.heap := by
  obtain ⟨hi, hRi⟩ := List.getElem?_eq_some_iff.1 hR
  obtain ⟨a, c, rfl, hc, hw, hnil⟩ := hr.it
  obtain ⟨ae, ce, rfl, he⟩ := hr.en
  obtain ⟨s, hs⟩ : ∃ s, s = ((FO.take i).map List.length).sum := ⟨_, rfl⟩
  obtain ⟨n, hn⟩ : ∃ n, n = R.length := ⟨_, rfl⟩
  have hsn : s + n ≤ FO.flatten.length := by rw [flat_len, hs, hn, ← hRi, ← sum_take FO hi]; exact sum_le FO (i + 1)
  obtain ⟨be, oe, ee, _, d1⟩ := he.at' i (by rw [nI_len, endsN_len]; exact hi)
  subst ee
  have hx : w.cell? ⟨be, oe + i, none⟩ = some (.int .i64 ((s + n : Nat) : Int)) := by
    rw [d1]
    have h := endsN_at FO hi
    obtain ⟨h1, h2⟩ := List.getElem?_eq_some_iff.1 h
    rw [hRi, ← hs, ← hn] at h2
    simp only [nI, List.getElem_map, h2]
  have hp : ∀ j, i = j + 1 → w.cell? ⟨be, oe + j, none⟩ = some (.int .i64 (s : Int)) := fun j hj => by
    obtain ⟨b', o', e', _, d2⟩ := he.at' j (by rw [nI_len, endsN_len]; omega)
    cases e'
    have h := endsN_at FO (i := j) (by omega)
    obtain ⟨h1, h2⟩ := List.getElem?_eq_some_iff.1 h
    rw [d2]
    simp only [nI, List.getElem_map, h2]
    have h3 := sum_take FO (i := j) (by omega)
    rw [← hj, ← hs] at h3
    rw [h3]
  have HW := hid0 hw
  have HS := hid0 (And.intro hs hn)
  have HSs := hid0 hs
  obtain ⟨T, hT⟩ : ∃ T, T = FO.flatten.length := ⟨_, rfl⟩
  have HT := hid0 hT
  rw [← hT] at c1 hc hb hsn
  have HI := hid0 hi
  rw [← hn]
  have hiI : (i : Int) < (FO.length : Int) := by omega
  have hiI0 : (0 : Int) ≤ (i : Int) := by omega
  have hsI : (s : Int) ≤ (s : Int) + (n : Int) := by omega
  have hsT : (s : Int) + (n : Int) ≤ (c : Int) := by omega
  have hsnc : s + n ≤ c := by omega
  have hsnI : ((s + n : Nat) : Int) = (s : Int) + (n : Int) := by omega
  have hbI : (s : Int) + (n : Int) ≤ 1000000000 := by omega
  rw [hsnI] at hx
  have HRow : Hid (∀ (V : World), V.heap = w.heap → V.os = w.os → V.tape = w.tape → V.output = w.output → Below w.heap.size w V) := hid0 (fun V h1 h2 h3 h4 => ⟨h2, h3, h4, by rw [h1]; exact Nat.le_refl _, fun k _ => by rw [h1]⟩)
  obtain ⟨vF, hvF⟩ : ∃ vF, vF = Value.slice a FO.flatten.length c := ⟨_, rfl⟩
  have HvF := hid0 hvF
  rw [← hvF]
  have HFin : Hid (∀ (V : World), RwW V vF (.slice (some ⟨be, oe, none⟩) FO.length ce) FO → ∀ b off, (a = some ⟨b, off, none⟩ ∨ T = 0) → WdA V (if c = s then a else some ⟨b, off + s * 2, none⟩) R) := hid0 (fun V hV b off ha => by
    obtain ⟨a', c', e', _, h1, _⟩ := hV.it
    rw [HvF.out] at e'
    simp only [Value.slice.injEq, true_and] at e'
    rw [← e'.1] at h1
    have h2 := h1.row HI.out (by rw [← HT.out]; exact hc) (b := b) (off := off) (fun hne => by
      rcases ha with h | h
      · exact h
      · exfalso; apply hne; apply List.length_eq_zero_iff.1; rw [← HT.out]; exact h)
    rw [← HS.out.1, hRi] at h2
    exact h2)
  have HF0 : Hid (n = 0 → ∀ (V : World) (z : Option Addr), WdA V z R) := hid0 (fun h0 V z => ⟨fun k hk => by have := HS.out.2; omega⟩)
  clear hw he hr d1 hs hn hT hi HS HI hR hRi hvF
  have HA : Hid (T = 0 ∨ ∃ b off, a = some ⟨b, off, none⟩) := hid0 (by
    rcases Nat.eq_zero_or_pos T with h | h
    · exact .inl h
    · obtain ⟨b, off, e, _⟩ := HW.out.at' 0 (by rw [← HT.out]; exact h)
      exact .inr ⟨b, off, e⟩)
  have HBl : Hid (∀ q, Below w.heap.size w (w.drewN q)) := hid0 (fun q => HRow.out _ rfl rfl rfl rfl)
  have HS0 : Hid (i = 0 → s = 0) := hid0 (fun h => by rw [HSs.out, h]; rfl)
  rcases HA.out with hT0 | ⟨b, off, rfl⟩
  · have hs0 : s = 0 := by omega
    have hn0 : n = 0 := by omega
    obtain ⟨ea, ec⟩ := hnil (List.length_eq_zero_iff.1 (by rw [← HT.out]; exact hT0))
    subst ea
    subst ec
    rw [hT0] at c1
    rw [hs0, hn0] at hx
    replace hx : w.cell? ⟨be, oe + i, none⟩ = some (.int .i64 0) := hx
    have HZ := hid0 (HF0.out hn0)
    have hp0 : ∀ j, i = j + 1 → w.cell? ⟨be, oe + j, none⟩ = some (.int .i64 0) := fun j hj => by have h := hp j hj; rw [hs0] at h; exact h
    rw [hn0]
    clear HF0 HFin HA hsT hsnc hsnI hbI hsI hsn hc hs0 hn0 hT0 hp hb
    rcases Nat.eq_zero_or_pos i with h0 | h0
    · subst h0
      clear hp0
      replace hx : w.cell? ⟨be, oe, none⟩ = some (.int .i64 0) := by simpa using hx
      go_enter Tryd.func91, Tryd.ntmps91
      go_wp2
      go_quiet ((fail))
      go_wp2
      go_ret
      exact ⟨_, _, rfl, fun V _ => HZ.out V _, HBl.out _, rfl⟩
    · obtain ⟨j, rfl⟩ : ∃ j, i = j + 1 := ⟨i - 1, by omega⟩
      have hy := hp0 j rfl
      have hj0 : (0 : Int) < ((j + 1 : Nat) : Int) := by omega
      clear hp0
      go_enter Tryd.func91, Tryd.ntmps91
      go_wp2
      go_quiet ((fail))
      go_wp2
      go_ret
      exact ⟨_, _, rfl, fun V _ => HZ.out V _, HBl.out _, rfl⟩
  · have HGx : Hid (∀ V : World, RwW V vF (.slice (some ⟨be, oe, none⟩) FO.length ce) FO → WdA V (if c = s then some ⟨b, off, none⟩ else some ⟨b, off + s * 2, none⟩) R) := hid0 (fun V hV => HFin.out V hV b off (.inl rfl))
    have HGb : Hid (¬ c = s → ∀ V : World, RwW V vF (.slice (some ⟨be, oe, none⟩) FO.length ce) FO → WdA V (some ⟨b, off + s * 2, none⟩) R) := hid0 (fun h V hV => by have h1 := HGx.out V hV; rw [if_neg h] at h1; exact h1)
    have HGa : Hid (c = s → ∀ V : World, RwW V vF (.slice (some ⟨be, oe, none⟩) FO.length ce) FO → WdA V (some ⟨b, off, none⟩) R) := hid0 (fun h V hV => by have h1 := HGx.out V hV; rw [if_pos h] at h1; exact h1)
    clear HF0 HFin HA HGx
    by_cases hcs : c = s
    · have HG := hid0 (HGa.out hcs)
      have hn0 : n = 0 := by omega
      have hTs : T = s := by omega
      clear HGa HGb
      rcases Nat.eq_zero_or_pos i with h0 | h0
      · exfalso
        have h1 := HS0.out h0
        have h2 := hnil (List.length_eq_zero_iff.1 (by rw [← HT.out]; omega))
        cases h2.1
      · obtain ⟨j, rfl⟩ : ∃ j, i = j + 1 := ⟨i - 1, by omega⟩
        have hy := hp j rfl
        have hj0 : (0 : Int) < ((j + 1 : Nat) : Int) := by omega
        rw [hn0] at hx ⊢
        replace hx : w.cell? ⟨be, oe + (j + 1), none⟩ = some (.int .i64 (s : Int)) := by simpa using hx
        rw [hTs, hcs] at c1
        have hss : (s : Int) ≤ 1000000000 := by omega
        clear hp hsT hsnc hsnI hbI hsI hsn hn0 hTs hcs hc hb hnil
        go_enter Tryd.func91, Tryd.ntmps91
        go_wp2
        go_quiet ((fail))
        go_wp2
        go_ret
        exact ⟨_, _, rfl, HG.out, HBl.out _, rfl⟩
    · have HG := hid0 (HGb.out hcs)
      clear HGa HGb
      rcases Nat.eq_zero_or_pos i with h0 | h0
      · have hs0 := HS0.out h0
        subst h0
        subst hs0
        have hc0 : ¬ c = 0 := hcs
        replace hx : w.cell? ⟨be, oe, none⟩ = some (.int .i64 (n : Int)) := by simpa using hx
        have hnc : (n : Int) ≤ (c : Int) := by omega
        have hnc2 : n ≤ c := by omega
        have HG2 : Hid (∀ V : World, RwW V vF (.slice (some ⟨be, oe, none⟩) FO.length ce) FO → WdA V (some ⟨b, off, none⟩) R) := hid0 (fun V hV => by have h := HG.out V hV; rw [Nat.zero_mul, Nat.add_zero] at h; exact h)
        clear hsT hsnc hsnI hbI hsI hsn hp HG hcs
        go_enter Tryd.func91, Tryd.ntmps91
        go_wp2
        go_quiet ((fail))
        go_wp2
        go_ret
        exact ⟨_, _, rfl, HG2.out, HBl.out _, rfl⟩
      · obtain ⟨j, rfl⟩ : ∃ j, i = j + 1 := ⟨i - 1, by omega⟩
        have hy := hp j rfl
        have hj0 : (0 : Int) < ((j + 1 : Nat) : Int) := by omega
        clear hp
        go_enter Tryd.func91, Tryd.ntmps91
        go_wp2
        go_quiet ((fail))
        go_wp2
        go_ret
        refine ⟨some ⟨b, off + s * 2, none⟩, c - s, ?_, HG.out, HBl.out _, rfl⟩
        show Ending.returned (Value.slice _ (s + n - s) _) = _
        rw [Nat.add_sub_cancel_left]
set_option maxRecDepth 10000 in
set_option maxHeartbeats 1600000 in
theorem ofL_any (J o i : Nat) (FO : List (List (Nat × Nat))) (vF vE : Value) (w : World) (c1 : w.cell? ⟨J, o, none⟩ = some vF) (c2 : w.cell? ⟨J, o + 1, none⟩ = some vE) (hr : RwW w vF vE FO) (R : List (Nat × Nat)) (hR : FO[i]? = some R) (hb : FO.flatten.length ≤ 1000000000) (hl : FO.length ≤ 1000000000) :
    Calls Tryd.prog 65 #[.pointer (some ⟨J, o, none⟩), .int .i64 (i : Int)] w fun e w' => ∃ a c, e = .returned (.slice a R.length c) ∧ (∀ V : World, RwW V vF vE FO → WdA V a R) ∧ Below w.heap.size w w' ∧ w'.heap = w.heap := by
  obtain ⟨hi, hRi⟩ := List.getElem?_eq_some_iff.1 hR
  obtain ⟨a, c, rfl, hc, hw, hnil⟩ := hr.it
  obtain ⟨ae, ce, rfl, he⟩ := hr.en
  obtain ⟨s, hs⟩ : ∃ s, s = ((FO.take i).map List.length).sum := ⟨_, rfl⟩
  obtain ⟨n, hn⟩ : ∃ n, n = R.length := ⟨_, rfl⟩
  have hsn : s + n ≤ FO.flatten.length := by rw [flat_len, hs, hn, ← hRi, ← sum_take FO hi]; exact sum_le FO (i + 1)
  obtain ⟨be, oe, ee, _, d1⟩ := he.at' i (by rw [nI_len, endsN_len]; exact hi)
  subst ee
  have hx : w.cell? ⟨be, oe + i, none⟩ = some (.int .i64 ((s + n : Nat) : Int)) := by
    rw [d1]
    have h := endsN_at FO hi
    obtain ⟨h1, h2⟩ := List.getElem?_eq_some_iff.1 h
    rw [hRi, ← hs, ← hn] at h2
    simp only [nI, List.getElem_map, h2]
  have hp : ∀ j, i = j + 1 → w.cell? ⟨be, oe + j, none⟩ = some (.int .i64 (s : Int)) := fun j hj => by
    obtain ⟨b', o', e', _, d2⟩ := he.at' j (by rw [nI_len, endsN_len]; omega)
    cases e'
    have h := endsN_at FO (i := j) (by omega)
    obtain ⟨h1, h2⟩ := List.getElem?_eq_some_iff.1 h
    rw [d2]
    simp only [nI, List.getElem_map, h2]
    have h3 := sum_take FO (i := j) (by omega)
    rw [← hj, ← hs] at h3
    rw [h3]
  have HW := hid0 hw
  have HS := hid0 (And.intro hs hn)
  have HSs := hid0 hs
  obtain ⟨T, hT⟩ : ∃ T, T = FO.flatten.length := ⟨_, rfl⟩
  have HT := hid0 hT
  rw [← hT] at c1 hc hb hsn
  have HI := hid0 hi
  rw [← hn]
  have hiI : (i : Int) < (FO.length : Int) := by omega
  have hiI0 : (0 : Int) ≤ (i : Int) := by omega
  have hsI : (s : Int) ≤ (s : Int) + (n : Int) := by omega
  have hsT : (s : Int) + (n : Int) ≤ (c : Int) := by omega
  have hsnc : s + n ≤ c := by omega
  have hsnI : ((s + n : Nat) : Int) = (s : Int) + (n : Int) := by omega
  have hbI : (s : Int) + (n : Int) ≤ 1000000000 := by omega
  rw [hsnI] at hx
  have HRow : Hid (∀ (V : World), V.heap = w.heap → V.os = w.os → V.tape = w.tape → V.output = w.output → Below w.heap.size w V) := hid0 (fun V h1 h2 h3 h4 => ⟨h2, h3, h4, by rw [h1]; exact Nat.le_refl _, fun k _ => by rw [h1]⟩)
  obtain ⟨vF, hvF⟩ : ∃ vF, vF = Value.slice a FO.flatten.length c := ⟨_, rfl⟩
  have HvF := hid0 hvF
  rw [← hvF]
  have HFin : Hid (∀ (V : World), RwW V vF (.slice (some ⟨be, oe, none⟩) FO.length ce) FO → ∀ b off, (a = some ⟨b, off, none⟩ ∨ T = 0) → WdA V (if c = s then a else some ⟨b, off + s * 2, none⟩) R) := hid0 (fun V hV b off ha => by
    obtain ⟨a', c', e', _, h1, _⟩ := hV.it
    rw [HvF.out] at e'
    simp only [Value.slice.injEq, true_and] at e'
    rw [← e'.1] at h1
    have h2 := h1.row HI.out (by rw [← HT.out]; exact hc) (b := b) (off := off) (fun hne => by
      rcases ha with h | h
      · exact h
      · exfalso; apply hne; apply List.length_eq_zero_iff.1; rw [← HT.out]; exact h)
    rw [← HS.out.1, hRi] at h2
    exact h2)
  have HF0 : Hid (n = 0 → ∀ (V : World) (z : Option Addr), WdA V z R) := hid0 (fun h0 V z => ⟨fun k hk => by have := HS.out.2; omega⟩)
  clear hw he hr d1 hs hn hT hi HS HI hR hRi hvF
  have HA : Hid (T = 0 ∨ ∃ b off, a = some ⟨b, off, none⟩) := hid0 (by
    rcases Nat.eq_zero_or_pos T with h | h
    · exact .inl h
    · obtain ⟨b, off, e, _⟩ := HW.out.at' 0 (by rw [← HT.out]; exact h)
      exact .inr ⟨b, off, e⟩)
  have HBl : Hid (∀ q, Below w.heap.size w (w.drewN q)) := hid0 (fun q => HRow.out _ rfl rfl rfl rfl)
  have HS0 : Hid (i = 0 → s = 0) := hid0 (fun h => by rw [HSs.out, h]; rfl)
  rcases HA.out with hT0 | ⟨b, off, rfl⟩
  · have hs0 : s = 0 := by omega
    have hn0 : n = 0 := by omega
    obtain ⟨ea, ec⟩ := hnil (List.length_eq_zero_iff.1 (by rw [← HT.out]; exact hT0))
    subst ea
    subst ec
    rw [hT0] at c1
    rw [hs0, hn0] at hx
    replace hx : w.cell? ⟨be, oe + i, none⟩ = some (.int .i64 0) := hx
    have HZ := hid0 (HF0.out hn0)
    have hp0 : ∀ j, i = j + 1 → w.cell? ⟨be, oe + j, none⟩ = some (.int .i64 0) := fun j hj => by have h := hp j hj; rw [hs0] at h; exact h
    rw [hn0]
    clear HF0 HFin HA hsT hsnc hsnI hbI hsI hsn hc hs0 hn0 hT0 hp hb
    rcases Nat.eq_zero_or_pos i with h0 | h0
    · subst h0
      clear hp0
      replace hx : w.cell? ⟨be, oe, none⟩ = some (.int .i64 0) := by simpa using hx
      go_enter Tryd.func65, Tryd.ntmps65
      go_wp2
      go_quiet ((fail))
      go_wp2
      go_ret
      exact ⟨_, _, rfl, fun V _ => HZ.out V _, HBl.out _, rfl⟩
    · obtain ⟨j, rfl⟩ : ∃ j, i = j + 1 := ⟨i - 1, by omega⟩
      have hy := hp0 j rfl
      have hj0 : (0 : Int) < ((j + 1 : Nat) : Int) := by omega
      clear hp0
      go_enter Tryd.func65, Tryd.ntmps65
      go_wp2
      go_quiet ((fail))
      go_wp2
      go_ret
      exact ⟨_, _, rfl, fun V _ => HZ.out V _, HBl.out _, rfl⟩
  · have HGx : Hid (∀ V : World, RwW V vF (.slice (some ⟨be, oe, none⟩) FO.length ce) FO → WdA V (if c = s then some ⟨b, off, none⟩ else some ⟨b, off + s * 2, none⟩) R) := hid0 (fun V hV => HFin.out V hV b off (.inl rfl))
    have HGb : Hid (¬ c = s → ∀ V : World, RwW V vF (.slice (some ⟨be, oe, none⟩) FO.length ce) FO → WdA V (some ⟨b, off + s * 2, none⟩) R) := hid0 (fun h V hV => by have h1 := HGx.out V hV; rw [if_neg h] at h1; exact h1)
    have HGa : Hid (c = s → ∀ V : World, RwW V vF (.slice (some ⟨be, oe, none⟩) FO.length ce) FO → WdA V (some ⟨b, off, none⟩) R) := hid0 (fun h V hV => by have h1 := HGx.out V hV; rw [if_pos h] at h1; exact h1)
    clear HF0 HFin HA HGx
    by_cases hcs : c = s
    · have HG := hid0 (HGa.out hcs)
      have hn0 : n = 0 := by omega
      have hTs : T = s := by omega
      clear HGa HGb
      rcases Nat.eq_zero_or_pos i with h0 | h0
      · exfalso
        have h1 := HS0.out h0
        have h2 := hnil (List.length_eq_zero_iff.1 (by rw [← HT.out]; omega))
        cases h2.1
      · obtain ⟨j, rfl⟩ : ∃ j, i = j + 1 := ⟨i - 1, by omega⟩
        have hy := hp j rfl
        have hj0 : (0 : Int) < ((j + 1 : Nat) : Int) := by omega
        rw [hn0] at hx ⊢
        replace hx : w.cell? ⟨be, oe + (j + 1), none⟩ = some (.int .i64 (s : Int)) := by simpa using hx
        rw [hTs, hcs] at c1
        have hss : (s : Int) ≤ 1000000000 := by omega
        clear hp hsT hsnc hsnI hbI hsI hsn hn0 hTs hcs hc hb hnil
        go_enter Tryd.func65, Tryd.ntmps65
        go_wp2
        go_quiet ((fail))
        go_wp2
        go_ret
        exact ⟨_, _, rfl, HG.out, HBl.out _, rfl⟩
    · have HG := hid0 (HGb.out hcs)
      clear HGa HGb
      rcases Nat.eq_zero_or_pos i with h0 | h0
      · have hs0 := HS0.out h0
        subst h0
        subst hs0
        have hc0 : ¬ c = 0 := hcs
        replace hx : w.cell? ⟨be, oe, none⟩ = some (.int .i64 (n : Int)) := by simpa using hx
        have hnc : (n : Int) ≤ (c : Int) := by omega
        have hnc2 : n ≤ c := by omega
        have HG2 : Hid (∀ V : World, RwW V vF (.slice (some ⟨be, oe, none⟩) FO.length ce) FO → WdA V (some ⟨b, off, none⟩) R) := hid0 (fun V hV => by have h := HG.out V hV; rw [Nat.zero_mul, Nat.add_zero] at h; exact h)
        clear hsT hsnc hsnI hbI hsI hsn hp HG hcs
        go_enter Tryd.func65, Tryd.ntmps65
        go_wp2
        go_quiet ((fail))
        go_wp2
        go_ret
        exact ⟨_, _, rfl, HG2.out, HBl.out _, rfl⟩
      · obtain ⟨j, rfl⟩ : ∃ j, i = j + 1 := ⟨i - 1, by omega⟩
        have hy := hp j rfl
        have hj0 : (0 : Int) < ((j + 1 : Nat) : Int) := by omega
        clear hp
        go_enter Tryd.func65, Tryd.ntmps65
        go_wp2
        go_quiet ((fail))
        go_wp2
        go_ret
        refine ⟨some ⟨b, off + s * 2, none⟩, c - s, ?_, HG.out, HBl.out _, rfl⟩
        show Ending.returned (Value.slice _ (s + n - s) _) = _
        rw [Nat.add_sub_cancel_left]
end Go.Proofs.YtbbejfkgopcjoaaDoor
