/-
  MbLW, MbMM, MbMW.
-/
import Derived.Test.YtbbejfkgopcjoaaDoorNeaj
namespace Go.Proofs.YtbbejfkgopcjoaaDoor
open Go.RowKit Go.Shelf
/-- Places put into a set. -/
def setL (R : Nat → Bool) (base : Nat) (L : List Nat) : Nat → Bool := fun q => L.any (fun p => decide (q = base + p)) || R q
theorem setL_nil (R : Nat → Bool) (base : Nat) : setL R base [] = R := by funext q; simp [setL]
theorem setL_take (R : Nat → Bool) (base : Nat) {L : List Nat} {k : Nat} (hk : k < L.length) : setL R base (L.take (k + 1)) = fun q => decide (q = base + L[k]) || setL R base (L.take k) q := by
  funext q
  unfold setL
  rw [List.take_add_one, List.getElem?_eq_getElem hk, Option.toList_some, List.any_append]
  simp only [List.any_cons, List.any_nil, Bool.or_false]
  rw [Bool.or_right_comm, Bool.or_comm]
theorem OwnU.add {W : World} {base g n c p : Nat} {h : Nat → Bool} (ho : OwnU W base (.slice (some ⟨g, 0, none⟩) n c) n h) (ha : p / 64 < n) : OwnU (W.setCell ⟨g, p / 64, none⟩ (.int .u64 (wordOf (fun q => decide (q = p) || h q) (p / 64) : Int))) base (.slice (some ⟨g, 0, none⟩) n c) n (fun q => decide (q = p) || h q) := by
  have h1 := (World.ownsRow.stored ho (p / 64) (.int .u64 (wordOf (fun q => decide (q = p) || h q) (p / 64) : Int))).1
  have e : (wdV h n).set (p / 64) (.int .u64 (wordOf (fun q => decide (q = p) || h q) (p / 64) : Int)) = wdV (fun q => decide (q = p) || h q) n := by
    apply List.ext_getElem?
    intro i
    by_cases hi : i < n
    · by_cases hia : p / 64 = i
      · subst hia
        rw [List.getElem?_set_self (by rw [wdV_len]; exact ha), wdV_at _ ha]
      · rw [List.getElem?_set_ne hia, wdV_at _ hi, wdV_at _ hi, word_other h p i (fun e => hia e.symm)]
    · rw [List.getElem?_eq_none (by rw [List.length_set, wdV_len]; omega), List.getElem?_eq_none (by rw [wdV_len]; omega)]
  unfold OwnU
  rw [← e]
  exact h1
theorem OwnU.kept {W W' : World} {base : Nat} {v : Value} {n : Nat} {f : Nat → Bool} (h : OwnU W base v n f) (hh : W'.heap = W.heap) : OwnU W' base v n f := own_blk h (fun k _ => by rw [hh])
set_option maxRecDepth 10000 in
set_option maxHeartbeats 1600000 in
theorem addAllM_any (G N c lo base : Nat) (h : Nat → Bool) (L : List Nat) (aL : Option Addr) (cL : Nat) (w : World) (hN : N ≤ 1000000) (ho : OwnU w lo (.slice (some ⟨G, 0, none⟩) N c) N h) (hL : ∀ V : World, Only w V (fun k => k = G) → IA V aL (nI L)) (hb : ∀ p ∈ L, base + p < 64 * N) (hl : L.length ≤ 100000000) (_hbs : base ≤ 100000000) :
    Calls Tryd.prog 69 #[.slice (some ⟨G, 0, none⟩) N c, .int .i64 (base : Int), .slice aL L.length cL] w fun e w' => (∃ v, e = .returned v) ∧ OwnU w' lo (.slice (some ⟨G, 0, none⟩) N c) N (setL h base L) ∧ Only w w' (fun k => k = G) := by
  have HO := hid0 ho
  have HL := hid0 hL
  have HB := hid0 hb
  have hlI : (L.length : Int) ≤ 100000000 := by omega
  clear ho hL hb
  go_enter Tryd.func69, Tryd.ntmps69
  go_wp2
  go_loopw [10] (fun i wr => ∃ k : Nat, k ≤ L.length ∧ i = .int .i64 (k : Int) ∧ Hid (OwnU wr lo (.slice (some ⟨G, 0, none⟩) N c) N (setL h base (L.take k))) ∧ Hid (Only w wr (fun k => k = G))) (fun i _ => L.length - (intOf i).toNat)
  case atStart => exact ⟨0, Nat.zero_le _, rfl, hid0 (by rw [List.take_zero, setL_nil]; exact HO.out), hid0 (Only.refl _ _)⟩
  case round =>
    obtain ⟨k, hk, rfl, HK, HW⟩ := hrel
    by_cases hkl : k < L.length
    · obtain ⟨bl, ol, el, _, dl⟩ := (HL.out wr HW.out).at' k (by rw [nI_len]; exact hkl)
      subst el
      obtain ⟨p, hp⟩ : ∃ p : Nat, p = base + L[k] := ⟨_, rfl⟩
      obtain ⟨x, hx⟩ : ∃ x : Nat, x = L[k] := ⟨_, rfl⟩
      replace dl : wr.cell? ⟨bl, ol + k, none⟩ = some (.int .i64 (x : Int)) := by rw [dl, hx]; simp [nI]
      have hpb : p < 64 * N := by rw [hp]; exact HB.out _ (List.getElem_mem hkl)
      have hpx : (base : Int) + (x : Int) = (p : Int) := by rw [hp, hx]; omega
      obtain ⟨R, hR⟩ : ∃ R : Nat → Bool, R = setL h base (L.take k) := ⟨_, rfl⟩
      have HSt : Hid (setL h base (L.take (k + 1)) = fun q => decide (q = p) || R q) := hid0 (by rw [setL_take h base hkl, ← hp, ← hR])
      have hU : OwnU wr lo (.slice (some ⟨G, 0, none⟩) N c) N R := by rw [hR]; exact HK.out
      obtain ⟨d, hd⟩ : ∃ d : Nat, d = p / 64 := ⟨_, rfl⟩
      obtain ⟨g', c', e', _, _, k0, k1⟩ := hU.at' (i := p / 64) (by omega)
      cases e'
      obtain ⟨b, hb⟩ : ∃ b : Nat, b = 2 ^ (p % 64) := ⟨_, rfl⟩
      have hp0 : (0 : Int) ≤ (p : Int) := by omega
      have hdI : (p : Int) / 64 = (d : Int) := by omega
      have hdI1 : (d : Int) < (N : Int) := by omega
      have hdI0 : (0 : Int) ≤ (d : Int) := by omega
      have hmI : (0 : Int) ≤ (p : Int) % 64 := by omega
      have hmI2 : (p : Int) % 64 < 64 := by omega
      have hbl : b < 18446744073709551616 := by
        rw [hb]; exact Nat.lt_of_lt_of_le (Nat.pow_lt_pow_right (by omega) (Nat.mod_lt p (by omega) : p % 64 < 64)) (by decide)
      have hwb : IntKind.u64.wrap (2 ^ (p % 64)) = (b : Int) := by
        rw [hb, IntKind.wrap_u64]
        have e : (2 : Int) ^ (p % 64) = ((2 ^ (p % 64) : Nat) : Int) := by simp
        rw [e]
        rw [hb] at hbl
        omega
      obtain ⟨a, ha⟩ : ∃ a : Nat, a = wordOf R (p / 64) := ⟨_, rfl⟩
      rw [← ha] at k0
      obtain ⟨aI, haI⟩ : ∃ aI : Int, (a : Int) = aI := ⟨_, rfl⟩
      obtain ⟨bI, hbI⟩ : ∃ bI : Int, (b : Int) = bI := ⟨_, rfl⟩
      have hal : a < 18446744073709551616 := by rw [ha]; exact wordOf_lt _ _
      obtain ⟨eI, heI⟩ : ∃ eI : Int, ((a ||| b : Nat) : Int) = eI := ⟨_, rfl⟩
      have hor : bits .or .u64 aI bI = eI := by rw [← haI, ← hbI, ← heI]; exact bits_or_u64_nat a b hal hbl
      have hs2 := word_or R p
      rw [← ha, ← hb] at hs2
      have hBS := hU.add (p := p) (by omega)
      rw [← hs2, heI, ← hd] at hBS
      have HBS : Hid (∀ n, OwnU ((wr.drewN n).setCell ⟨G, d, none⟩ (.int .u64 eI)) lo (.slice (some ⟨G, 0, none⟩) N c) N (setL h base (L.take (k + 1)))) := hid0 (fun n => by rw [HSt.out]; exact hBS.kept rfl)
      have HOn : Hid (∀ n, Only w ((wr.drewN n).setCell ⟨G, d, none⟩ (.int .u64 eI)) (fun k => k = G)) := hid0 (fun n => HW.out.trans ((Only.drewN wr n _).trans (Only.setCell _ G _ _) (fun i hi => .inl hi)) (fun i hi => .inl hi))
      rw [haI, ← hd] at k0
      rw [← hd] at k1
      rw [hbI] at hwb
      have hkI : (k : Int) < (L.length : Int) := by omega
      have hkI0 : (0 : Int) ≤ (k : Int) := by omega
      have hwp : IntKind.i64.wrap (p : Int) = (p : Int) := by rw [IntKind.wrap_i64]; omega
      clear hb hd hp ha hbl haI hbI heI hal hs2 hBS hU hR hx HK HSt hpb
      go_wp2
      go_region
      all_goals
        go_wp2
        go_roundw
        case rel => exact ⟨k + 1, by omega, by go_num, hid0 (HBS.out 1), hid0 (HOn.out 1)⟩
        case measure => simp [intOf]; omega
    · obtain rfl : k = L.length := by omega
      have HF : Hid (OwnU wr lo (.slice (some ⟨G, 0, none⟩) N c) N (setL h base L)) := hid0 (by have h := HK.out; rw [List.take_length] at h; exact h)
      go_wp2
      go_end0
      exact ⟨⟨_, rfl⟩, HF.out, HW.out⟩
end Go.Proofs.YtbbejfkgopcjoaaDoor
namespace Go.Proofs.YtbbejfkgopcjoaaDoor
open Go.RowKit Go.Shelf
abbrev Lob := List (Value × List UInt8)
structure BagT (w : World) (base : Nat) (v : Value) (ps : Lob) : Prop where
  outer : w.ownsRow base 99 1 v ps.length (ps.map (·.1))
  row : ∀ x ∈ ps, OwnB w base x.1 x.2
  apart : ps.Pairwise fun x y => ∀ g, x.1.ownBlock = some g → y.1.ownBlock ≠ some g
  away : ∀ x ∈ ps, ∀ g, v.ownBlock = some g → x.1.ownBlock ≠ some g
theorem BagT.nil (w : World) (base : Nat) : BagT w base (.slice none 0 0) [] := ⟨World.ownsRow_nil _ _ _ _, by simp, List.Pairwise.nil, by simp⟩
theorem BagT.later {w w' : World} {base : Nat} {v : Value} {ps : Lob} (h : BagT w base v ps) (hb : Below w.heap.size w w') : BagT w' base v ps :=
  ⟨row_later h.outer hb, fun x hx => own_blk (h.row x hx) (fun k hk => hb.block k (World.ownsRow.lt (h.row x hx) k hk).2), h.apart, h.away⟩
/-- All lists empty. -/
theorem BagT.made {w : World} {base : Nat} {v : Value} {n : Nat} (h : w.ownsRow base 99 1 v n (List.replicate n (.slice none 0 0))) : BagT w base v (List.replicate n (.slice none 0 0, [])) := by
  refine ⟨?_, ?_, ?_, ?_⟩
  · rw [List.length_replicate, List.map_replicate]; exact h
  · intro x hx
    rw [List.eq_of_mem_replicate hx]
    exact World.ownsRow_nil _ _ _ _
  · rw [List.pairwise_replicate]
    right
    intro g hg
    cases hg
  · intro x hx g _ hxg
    rw [List.eq_of_mem_replicate hx] at hxg
    cases hxg
/-- One list is another one. -/
theorem BagT.set {W w1 : World} {base g n c : Nat} {ps : Lob} (h : BagT W base (.slice (some ⟨g, 0, none⟩) n c) ps) (hn : n = ps.length) (y : Nat) (hy : y < ps.length) {v' : Value} {l' : List UInt8}
    (hk : ∀ k, k < W.heap.size → (ps[y]).1.ownBlock ≠ some k → w1.heap[k]? = W.heap[k]?) (hv : OwnB w1 base v' l') (hnew : ∀ q, v'.ownBlock = some q → (ps[y]).1.ownBlock = some q ∨ W.heap.size ≤ q) :
    BagT (w1.setCell ⟨g, y, none⟩ v') base (.slice (some ⟨g, 0, none⟩) n c) (ps.set y (v', l')) := by
  subst hn
  have hmem : ps[y] ∈ ps := List.getElem_mem hy
  have hgl := World.ownsRow.lt h.outer g rfl
  have hvg : ∀ q, v'.ownBlock = some q → q ≠ g := fun q hq e => by
    subst e
    rcases hnew q hq with h1 | h1
    · exact h.away _ hmem q rfl h1
    · omega
  have hyg : (ps[y]).1.ownBlock ≠ some g := h.away _ hmem g rfl
  have hout1 : w1.ownsRow base 99 1 (.slice (some ⟨g, 0, none⟩) ps.length c) ps.length (ps.map (·.1)) := own_blk h.outer (fun k hk' => by
    have e : g = k := by simpa [Value.ownBlock] using hk'
    subst e
    exact hk g hgl.2 hyg)
  have hother : ∀ {t : TypeId} {size m : Nat} {u : Value} {xs : List Value}, w1.ownsRow base t size u m xs → (∀ q, u.ownBlock = some q → q ≠ g) → (w1.setCell ⟨g, y, none⟩ v').ownsRow base t size u m xs := by
    intro t size m u xs ho hne
    exact own_blk ho (fun q hq => Below.heap_setCell w1 _ _ q (hne q hq))
  refine ⟨?_, ?_, ?_, ?_⟩
  · have h1 := (World.ownsRow.stored hout1 y v').1
    rw [List.length_set, List.map_set]
    exact h1
  · intro x hx
    obtain ⟨j, hj, rfl⟩ := List.getElem_of_mem hx
    have hj2 : j < ps.length := by simpa using hj
    rw [List.getElem_set]
    split
    · exact hother hv hvg
    · rename_i hne
      have hr := h.row _ (List.getElem_mem hj2)
      refine hother (own_blk hr (fun q hq => hk q (World.ownsRow.lt hr q hq).2 ?_)) (fun q hq e => ?_)
      · intro hyq
        have := List.pairwise_iff_getElem.1 h.apart
        rcases Nat.lt_or_gt_of_ne hne with hlt | hlt
        · exact this y j hy hj2 hlt q hyq hq
        · exact this j y hj2 hy hlt q hq hyq
      · subst e
        exact h.away _ (List.getElem_mem hj2) q rfl hq
  · rw [List.pairwise_iff_getElem]
    intro i j hi hj hij q hiq hjq
    have hi2 : i < ps.length := by simpa using hi
    have hj2 : j < ps.length := by simpa using hj
    have ap := List.pairwise_iff_getElem.1 h.apart
    rw [List.getElem_set] at hiq hjq
    split at hiq
    · rename_i e
      subst e
      rw [if_neg (by omega)] at hjq
      rcases hnew q hiq with h1 | h1
      · exact ap y j hi2 hj2 hij q h1 hjq
      · have := (World.ownsRow.lt (h.row _ (List.getElem_mem hj2)) q hjq).2; omega
    · split at hjq
      · rename_i e
        subst e
        rcases hnew q hjq with h1 | h1
        · exact ap i y hi2 hj2 hij q hiq h1
        · have := (World.ownsRow.lt (h.row _ (List.getElem_mem hi2)) q hiq).2; omega
      · exact ap i j hi2 hj2 hij q hiq hjq
  · intro x hx q hq hxq
    have e : g = q := by simpa [Value.ownBlock] using hq
    subst e
    obtain ⟨j, hj, rfl⟩ := List.getElem_of_mem hx
    have hj2 : j < ps.length := by simpa using hj
    rw [List.getElem_set] at hxq
    split at hxq
    · exact hvg g hxq rfl
    · exact h.away _ (List.getElem_mem hj2) g rfl hxq
theorem BagT.cells {w : World} {base g n c : Nat} {ps : Lob} (h : BagT w base (.slice (some ⟨g, 0, none⟩) n c) ps) (hn : n = ps.length) (j : Nat) (hj : j < ps.length) : w.cell? ⟨g, j, none⟩ = some (ps[j]).1 ∧ w.frozen? ⟨g, j, none⟩ = false := by
  subst hn
  refine ⟨?_, World.ownsRow.frozenAt h.outer j⟩
  rw [World.ownsRow.cellAt h.outer j (by omega)]
  simp [hj]
/-- The letters of words of places: of each word the symbols, each once, with its places. -/
structure LtOk (N sy : Nat) (LT : List (List (Nat × Nat))) (lt : Nat → Nat → Bool) : Prop where
  len : LT.length = N
  sym : ∀ r ∈ LT, ∀ x ∈ r, x.1 < sy
  once : ∀ r ∈ LT, (r.map (·.1)).Nodup
  bits : ∀ i (h : i < LT.length), ∀ x ∈ LT[i], x.2 = wordOf (lt x.1) i
  all : ∀ i (h : i < LT.length) c, c < sy → wordOf (lt c) i ≠ 0 → c ∈ (LT[i]).map (·.1)
/-- Both at once. -/
def andB (f g : Nat → Bool) : Nat → Bool := fun q => f q && g q
theorem word_and2 (f g : Nat → Bool) (i : Nat) : wordOf f i &&& wordOf g i = wordOf (andB f g) i := word_mask f g i
/-- The text of a symbol: so many words of places, and of the next one the letters ahead of the k-th. -/
def txF (S : Nat → Bool) (lt : Nat → Nat → Bool) (old : Nat → List UInt8) (i : Nat) (r : List (Nat × Nat)) (k c : Nat) : List UInt8 :=
  old c ++ encW (andB S (lt c)) i ++ if c ∈ (r.take k).map (·.1) then wdT (andB S (lt c)) i else []
theorem txF_start (S : Nat → Bool) (lt : Nat → Nat → Bool) (old : Nat → List UInt8) (i : Nat) (r : List (Nat × Nat)) (c : Nat) : txF S lt old i r 0 c = old c ++ encW (andB S (lt c)) i := by
  unfold txF; simp
theorem txF_other {S : Nat → Bool} {lt : Nat → Nat → Bool} {old : Nat → List UInt8} {i : Nat} {r : List (Nat × Nat)} {k c : Nat} (hk : k < r.length) (hc : c ≠ (r[k]).1) : txF S lt old i r (k + 1) c = txF S lt old i r k c := by
  unfold txF
  rw [List.take_add_one, List.getElem?_eq_getElem hk, Option.toList_some, List.map_append]
  simp only [List.map_cons, List.map_nil, List.mem_append, List.mem_singleton, hc, or_false]
theorem txF_same {S : Nat → Bool} {lt : Nat → Nat → Bool} {old : Nat → List UInt8} {i : Nat} {r : List (Nat × Nat)} {k : Nat} (hk : k < r.length) (hn : (r.map (·.1)).Nodup) : txF S lt old i r (k + 1) (r[k]).1 = txF S lt old i r k (r[k]).1 ++ wdT (andB S (lt (r[k]).1)) i := by
  have h1 : (r[k]).1 ∉ (r.take k).map (·.1) := fun hm => by
    obtain ⟨x, hx, he⟩ := List.mem_map.1 hm
    obtain ⟨j, hj, rfl⟩ := List.getElem_of_mem hx
    rw [List.getElem_take] at he
    have hjk : j < k := by rw [List.length_take] at hj; omega
    have hp := List.pairwise_iff_getElem.1 hn j k (by rw [List.length_map]; omega) (by rw [List.length_map]; omega) hjk
    simp only [List.getElem_map] at hp
    exact hp he
  have h2 : (r[k]).1 ∈ (r.take (k + 1)).map (·.1) := by
    rw [List.take_add_one, List.getElem?_eq_getElem hk, Option.toList_some, List.map_append]
    simp
  unfold txF
  rw [if_pos h2, if_neg h1, List.append_nil]
theorem txF_end {N sy : Nat} {LT : List (List (Nat × Nat))} {lt : Nat → Nat → Bool} (h : LtOk N sy LT lt) (S : Nat → Bool) (old : Nat → List UInt8) {i c : Nat} (hi : i < LT.length) (hc : c < sy) : txF S lt old i LT[i] (LT[i]).length c = old c ++ encW (andB S (lt c)) (i + 1) := by
  unfold txF
  rw [List.take_length, encW, ← List.append_assoc]
  congr 1
  split
  · rfl
  · rename_i hn
    have h0 : wordOf (lt c) i = 0 := by
      cases Nat.eq_zero_or_pos (wordOf (lt c) i) with
      | inl h => exact h
      | inr h1 => exact absurd (h.all i hi c hc (by omega)) hn
    unfold wdT
    rw [← word_and2, h0, Nat.and_zero, if_pos rfl]
theorem txF_skip (S : Nat → Bool) (lt : Nat → Nat → Bool) {i : Nat} (h : wordOf S i = 0) (c : Nat) : encW (andB S (lt c)) (i + 1) = encW (andB S (lt c)) i := by
  rw [encW]
  unfold wdT
  rw [← word_and2, h, Nat.zero_and, if_pos rfl, List.append_nil]
theorem txF_len (S : Nat → Bool) (lt : Nat → Nat → Bool) (old : Nat → List UInt8) (i : Nat) (r : List (Nat × Nat)) (k c : Nat) : (txF S lt old i r k c).length ≤ (old c).length + 12 * (i + 1) := by
  unfold txF
  have h1 := encW_len (andB S (lt c)) i
  have h2 := wdT_len (andB S (lt c)) i
  rw [List.length_append, List.length_append]
  split
  · omega
  · simp; omega
end Go.Proofs.YtbbejfkgopcjoaaDoor
namespace Go.Proofs.YtbbejfkgopcjoaaDoor
open Go.RowKit Go.Shelf
/-- The blocks that texts lie in. -/
def PtS (GT : Nat) (ps0 : Lob) : Nat → Prop := fun i => i = GT ∨ ∃ x ∈ ps0, x.1.ownBlock = some i
/-- The texts, while they grow. -/
structure PtI (w : World) (GT cT sy lo : Nat) (ps0 : Lob) (tx : Nat → List UInt8) (W : World) : Prop where
  bag : ∃ ps : Lob, ps.length = sy ∧ BagT W lo (.slice (some ⟨GT, 0, none⟩) sy cT) ps ∧ (∀ c (h : c < ps.length), (ps[c]).2 = tx c) ∧ ∀ x ∈ ps, ∀ g, x.1.ownBlock = some g → PtS GT ps0 g ∨ w.heap.size ≤ g
  only : Only w W (PtS GT ps0)
theorem PtI.new {w A B : World} {GT cT sy lo : Nat} {ps0 : Lob} {tx : Nat → List UInt8} (h : PtI w GT cT sy lo ps0 tx A) (hb : Below A.heap.size A B) : PtI w GT cT sy lo ps0 tx B := by
  obtain ⟨ps, h1, h2, h3, h4⟩ := h.bag
  exact ⟨⟨ps, h1, h2.later hb, h3, h4⟩, h.only.trans (Only.ofNew hb (PtS GT ps0)) (fun i hi => .inl hi)⟩
theorem PtI.congr {w A : World} {GT cT sy lo : Nat} {ps0 : Lob} {tx tx' : Nat → List UInt8} (h : PtI w GT cT sy lo ps0 tx A) (he : ∀ c, c < sy → tx c = tx' c) : PtI w GT cT sy lo ps0 tx' A := by
  obtain ⟨ps, h1, h2, h3, h4⟩ := h.bag
  exact ⟨⟨ps, h1, h2, fun c hc => (h3 c hc).trans (he c (by omega)), h4⟩, h.only⟩
/-- One text, and where it lies; when it has grown. -/
theorem PtI.at' {w A : World} {GT cT sy lo : Nat} {ps0 : Lob} {tx : Nat → List UInt8} (h : PtI w GT cT sy lo ps0 tx A) {y : Nat} (hy : y < sy) :
    ∃ a c, A.cell? ⟨GT, y, none⟩ = some (.slice a (tx y).length c) ∧ A.frozen? ⟨GT, y, none⟩ = false ∧ OwnB A lo (.slice a (tx y).length c) (tx y) ∧ (∀ k, (Value.slice a (tx y).length c).ownBlock = some k → k < A.heap.size ∧ (PtS GT ps0 k ∨ w.heap.size ≤ k)) ∧
      ∀ (w1 : World) (v' : Value) (l' : List UInt8), Apd A w1 lo (.slice a (tx y).length c) v' l' → PtI w GT cT sy lo ps0 (fun c => if c = y then l' else tx c) (w1.setCell ⟨GT, y, none⟩ v') := by
  obtain ⟨ps, h1, h2, h3, h4⟩ := h.bag
  have hy2 : y < ps.length := by omega
  have hmem : ps[y] ∈ ps := List.getElem_mem hy2
  obtain ⟨k0, k1⟩ := h2.cells h1.symm y hy2
  have hr := h2.row _ hmem
  have e2 := h3 y hy2
  obtain ⟨a, c, ev⟩ : ∃ a c, (ps[y]).1 = .slice a (tx y).length c := by
    rcases hr.2 with ⟨e, hn⟩ | ⟨g, cap, cur, e, _⟩
    · exact ⟨none, 0, by rw [e, ← e2, hn]⟩
    · exact ⟨_, cap, by rw [e, ← e2]⟩
  rw [ev] at k0
  rw [ev, e2] at hr
  refine ⟨a, c, k0, k1, hr, fun k hk => ⟨(World.ownsRow.lt hr k hk).2, h4 _ hmem k (by rw [ev]; exact hk)⟩, fun w1 v' l' hap => ?_⟩
  have hs := h2.set h1.symm y hy2 (w1 := w1) (v' := v') (l' := l') (fun k hk hne => hap.frm.block k hk (by rw [ev] at hne; exact hne)) hap.own (fun q hq => by rw [ev]; exact hap.at' q hq)
  refine ⟨⟨ps.set y (v', l'), by rw [List.length_set]; exact h1, hs, fun j hj => ?_, fun x hx g hg => ?_⟩, ?_⟩
  · rw [List.getElem_set]
    split
    · rename_i e; rw [if_pos e.symm]
    · rename_i e; rw [if_neg (fun q => e q.symm)]; exact h3 j (by simpa using hj)
  · obtain ⟨j, hj, rfl⟩ := List.getElem_of_mem hx
    rw [List.getElem_set] at hg
    split at hg
    · rcases hap.at' g hg with q | q
      · exact h4 _ hmem g (by rw [ev]; exact q)
      · right; have := h.only.size; omega
    · exact h4 _ (List.getElem_mem (by simpa using hj)) g hg
  · refine (h.only.trans hap.frm (fun i hi => h4 _ hmem i (by rw [ev]; exact hi))).trans (Only.setCell w1 GT y v') (fun i hi => .inl (.inl hi))
set_option maxRecDepth 10000 in
set_option maxHeartbeats 2000000 in
theorem part_any (B J GT cT GS cS N sy lo lo2 : Nat) (vL vM : Value) (LT : List (List (Nat × Nat))) (lt : Nat → Nat → Bool) (S : Nat → Bool) (old : Nat → List UInt8) (ps0 : Lob) (w : World) (hN : N ≤ 1000000) (hN0 : 0 < N) (hlo : lo ≤ w.heap.size) (hok : LtOk N sy LT lt) (hl1 : LT.flatten.length ≤ 1000000000) (_hsy : sy ≤ 100000) (hold : ∀ c, c < sy → (old c).length ≤ 1000)
    (hrd : ∀ V : World, Only w V (PtS GT ps0) → V.cell? ⟨B, 0, none⟩ = some (.pointer (some ⟨J, 0, none⟩)) ∧ V.cell? ⟨B, 3, none⟩ = some (.slice (some ⟨GT, 0, none⟩) sy cT) ∧ V.cell? ⟨J, 4, none⟩ = some vL ∧ V.cell? ⟨J, 5, none⟩ = some vM ∧ RwW V vL vM LT ∧ OwnU V lo2 (.slice (some ⟨GS, 0, none⟩) N cS) N S)
    (hp : PtI w GT cT sy lo ps0 old w) :
    Calls Tryd.prog 48 #[.pointer (some ⟨B, 0, none⟩), .slice (some ⟨GS, 0, none⟩) N cS] w fun e w' => (∃ v, e = .returned v) ∧ PtI w GT cT sy lo ps0 (fun c => old c ++ encW (andB S (lt c)) N) w' := by
  have HOk := hid0 hok
  have HOl := hid0 hold
  have HRd := hid0 hrd
  have HP := hid0 hp
  have HLo := hid0 hlo
  have HGT : Hid (GT < w.heap.size) := hid0 (by obtain ⟨ps, h1, h2, _⟩ := HP.out.bag; exact (World.ownsRow.lt h2.outer GT rfl).2)
  have hNI : (N : Int) ≤ 1000000 := by omega
  clear hok hold hrd hp hlo
  go_enter Tryd.func48, Tryd.ntmps48
  go_wp2
  go_loopw [11] (fun i wr => ∃ k : Nat, k ≤ N ∧ i = .int .i64 (k : Int) ∧ Hid (PtI w GT cT sy lo ps0 (fun c => old c ++ encW (andB S (lt c)) k) wr)) (fun i _ => N - (intOf i).toNat)
  case atStart => exact ⟨0, Nat.zero_le _, rfl, hid0 (HP.out.congr (fun c _ => by simp [encW]))⟩
  case round =>
    clear HP
    obtain ⟨i, hi, rfl, HP⟩ := hrel
    by_cases hiN : i < N
    · obtain ⟨b0, _, j4, j5, hrw, hou⟩ := HRd.out wr HP.out.only
      obtain ⟨g', c', e', _, _, dS, _⟩ := hou.at' hiN
      cases e'
      have hwl := wordOf_lt S i
      have hiI : (i : Int) < (N : Int) := by omega
      have hiI0 : (0 : Int) ≤ (i : Int) := by omega
      by_cases h0 : wordOf S i = 0
      · have HN1 : Hid (PtI w GT cT sy lo ps0 (fun c => old c ++ encW (andB S (lt c)) (i + 1)) wr) := hid0 (HP.out.congr (fun c _ => by rw [txF_skip S lt h0 c]))
        rw [h0] at dS
        replace dS : wr.cell? ⟨GS, i, none⟩ = some (.int .u64 0) := dS
        clear hwl h0 b0 j4 j5 hrw hou
        go_wp2
        go_roundw
        case rel => exact ⟨i + 1, by omega, by go_num, HN1⟩
        case measure => simp [intOf]; omega
      · have hiL : i < LT.length := by rw [HOk.out.len]; exact hiN
        obtain ⟨r, hr⟩ : ∃ r, LT[i]? = some r := ⟨_, List.getElem?_eq_getElem hiL⟩
        have hri : LT[i] = r := (List.getElem?_eq_some_iff.1 hr).2
        have HOf := hid0 (ofL_any J 4 i LT vL vM wr j4 j5 hrw r hr hl1 (by rw [HOk.out.len]; omega))
        have HRi := hid0 (And.intro hr hri)
        have hrl : r.length ≤ 1000000000 := by
          have h2 := sum_take LT hiL
          have h3 := sum_le LT (i + 1)
          have h4 := flat_len LT
          rw [hri] at h2
          omega
        obtain ⟨s, hs⟩ : ∃ s : Nat, s = wordOf S i := ⟨_, rfl⟩
        have HSs := hid0 hs
        rw [← hs] at dS h0 hwl
        have hsI : ¬ (s : Int) = 0 := by omega
        have hsB : ((s : Int) == 0) = false := by rw [beq_eq_false_iff_ne]; omega
        have hsl : (s : Int) < 18446744073709551616 := by omega
        clear hs hr hri hrw hou h0
        go_wp2_with (go_at_call 65; go_loud ((refine HOf.out.mono ?_; rintro e V1 ⟨av, cv, rfl, hwd, hbv, _⟩; have HWv := hid0 hwd; have HBv := hid0 hbv; clear hwd hbv)))
        go_loopw [27] (fun j wr2 => ∃ k : Nat, k ≤ r.length ∧ j = .int .i64 (k : Int) ∧ Hid (PtI w GT cT sy lo ps0 (txF S lt old i r k) wr2)) (fun j _ => r.length - (intOf j).toNat)
        case atStart => exact ⟨0, Nat.zero_le _, rfl, hid0 ((HP.out.new HBv.out).congr (fun c _ => (txF_start S lt old i r c).symm))⟩
        case round =>
          obtain ⟨k, hk, rfl, HK⟩ := hrel
          clear b0 dS j4 j5
          obtain ⟨V, hV⟩ : ∃ V, V = wr := ⟨_, rfl⟩
          subst hV
          by_cases hkr : k < r.length
          · obtain ⟨_, b3, _, _, hrw, _⟩ := HRd.out V HK.out.only
            obtain ⟨b, off, eb, _, y0, y1⟩ := (HWv.out V hrw).at' k hkr
            subst eb
            have hrm : r ∈ LT := List.mem_of_getElem? HRi.out.1
            have hys := HOk.out.sym r hrm (r[k]) (List.getElem_mem hkr)
            have hxw : (r[k]).2 = wordOf (lt (r[k]).1) i := by
              have h := HOk.out.bits i hiL
              rw [HRi.out.2] at h
              exact h _ (List.getElem_mem hkr)
            have hts := txF_same (S := S) (lt := lt) (old := old) (i := i) hkr (HOk.out.once r hrm)
            have hto : ∀ c, c ≠ (r[k]).1 → txF S lt old i r (k + 1) c = txF S lt old i r k c := fun c hc => txF_other hkr hc
            rw [hxw] at y1
            generalize (r[k]).1 = ys at *
            obtain ⟨bo, hbo⟩ : ∃ bo : Nat, bo = wordOf (andB S (lt ys)) i := ⟨_, rfl⟩
            have hbl : bo < 18446744073709551616 := by rw [hbo]; exact wordOf_lt _ _
            obtain ⟨x, hx⟩ : ∃ x : Nat, x = wordOf (lt ys) i := ⟨_, rfl⟩
            have hxl : x < 18446744073709551616 := by rw [hx]; exact wordOf_lt _ _
            have hand : bits .and .u64 (s : Int) (x : Int) = (bo : Int) := by rw [bits_and_u64_nat _ _ hwl hxl, HSs.out, hx, word_and2, hbo]
            rw [← hx] at y1
            have HTs := hid0 (And.intro hts hto)
            have HBo := hid0 hbo
            obtain ⟨wA, hwA⟩ : ∃ wA, wA = V.alloc (.cells #[.int .i64 (ys : Int), .int .u64 (x : Int)] 127) := ⟨_, rfl⟩
            have hbA : Below V.heap.size V wA := by rw [hwA]; exact (Below.refl _ _).alloc (Nat.le_refl _) _
            have hrA : wA.heap[V.heap.size]? = some (.cells #[.int .i64 (ys : Int), .int .u64 (x : Int)] 127 (0, 0)) := by rw [hwA]; exact heap_alloc_new V _
            have hsA : wA.heap.size = V.heap.size + 1 := by rw [hwA]; simp
            have hPA := HK.out.new hbA
            have HPA := hid0 hPA
            have d8 : wA.cell? ⟨V.heap.size, 0, none⟩ = some (.int .i64 (ys : Int)) := by rw [cell_of_row _ _ _ _ _ _ hrA]; rfl
            have d9 : wA.cell? ⟨V.heap.size, 1, none⟩ = some (.int .u64 (x : Int)) := by rw [cell_of_row _ _ _ _ _ _ hrA]; rfl
            have hkI : (k : Int) < (r.length : Int) := by omega
            have hkI0 : (0 : Int) ≤ (k : Int) := by omega
            have hfold := hwA.symm
            by_cases hb0 : bo = 0
            · have HN2 : Hid (PtI w GT cT sy lo ps0 (txF S lt old i r (k + 1)) wA) := hid0 (HPA.out.congr (fun c _ => by
                by_cases hc : c = ys
                · subst hc
                  rw [HTs.out.1]
                  unfold wdT
                  rw [← HBo.out, if_pos hb0, List.append_nil]
                · rw [HTs.out.2 c hc]))
              rw [hb0] at hand
              replace hand : bits .and .u64 (s : Int) (x : Int) = 0 := hand
              clear hwA hbA hrA hPA hts hto hbo hbl hx hxl hys hxw hb0 hrw hsA b3
              go_wp2
              go_roundw
              case rel => exact ⟨k + 1, by omega, by go_num, HN2⟩
              case measure => simp [intOf]; omega
            · obtain ⟨at0, ct0, dT, fT, hoB, hlB, hput⟩ := hPA.at' hys
              have hl0 := txF_len S lt old i r k ys
              have hol := HOl.out ys hys
              obtain ⟨l, hl⟩ : ∃ l, l = txF S lt old i r k ys := ⟨_, rfl⟩
              rw [← hl] at dT hoB hlB hput hl0
              obtain ⟨n0, hn0⟩ : ∃ n0, n0 = l.length := ⟨_, rfl⟩
              rw [← hn0] at dT hoB hlB hput hl0
              obtain ⟨L1, hL1⟩ : ∃ L1, L1 = l ++ leB i 4 ++ leB bo 8 := ⟨_, rfl⟩
              have HL1 : Hid (0 < L1.length) := hid0 (by rw [hL1]; simp [leB_len])
              have HAw : Hid (Calls Tryd.prog 66 #[.slice at0 n0 ct0, .agg #[.int .i64 (i : Int), .int .u64 (bo : Int)]] wA.drew fun e w' => ∃ v', e = .returned v' ∧ Apd wA w' lo (.slice at0 n0 ct0) v' L1) := hid0 (by
                rw [hL1]
                have hd : Below wA.heap.size wA wA.drew := (Below.refl _ _).drew
                have h := addWord_any lo i bo (.slice at0 n0 ct0) l wA.drew (own_blk hoB (fun k _ => rfl)) (by omega) (by omega) hbl (by have := HLo.out; have := HK.out.only.size; have := hd.size; omega)
                exact h.mono (fun e w' ⟨v', q1, q2⟩ => ⟨v', q1, q2.since hd⟩))
              have HPut := hid0 hput
              have HoB := hid0 hoB
              have HOw : Hid (∀ k, (Value.slice at0 n0 ct0).ownBlock = some k → k < V.heap.size) := hid0 (fun k hk => by
                have h1 := (hlB k hk).1
                obtain ⟨cs, hcs⟩ := own_typ hoB hk
                have h2 : k ≠ V.heap.size := fun e => by rw [e, hrA] at hcs; cases hcs
                omega)
              have HS9 : Hid (∀ W' : World, Only wA W' (fun k => (Value.slice at0 n0 ct0).ownBlock = some k) → W'.cell? ⟨B, 3, none⟩ = some (.slice (some ⟨GT, 0, none⟩) sy cT) ∧ W'.cell? ⟨V.heap.size, 0, none⟩ = some (.int .i64 (ys : Int))) := hid0 (fun W' ho => by
                have h1 : Only w W' (PtS GT ps0) := HPA.out.only.trans ho (fun j hj => (hlB j hj).2)
                refine ⟨(HRd.out W' h1).2.1, (ho.cell (p := ⟨V.heap.size, 0, none⟩) (World.block_lt_of_cell? wA _ d8) (fun e => ?_)).trans d8⟩
                have h2 : V.heap.size < V.heap.size := HOw.out _ e
                omega)
              have hbI : ¬ (bo : Int) = 0 := by omega
              have hbB : ((bo : Int) != 0) = true := by rw [bne_iff_ne]; exact hbI
              have hysI : (ys : Int) < (sy : Int) := by omega
              have hysI0 : (0 : Int) ≤ (ys : Int) := by omega
              have b3A := (HS9.out wA (Only.refl _ _)).1
              have HSt : Hid (∀ (w1 : World) (v1 : Value), Apd wA w1 lo (.slice at0 n0 ct0) v1 L1 → (w1.setCell ⟨GT, ys, none⟩ v1).cell? ⟨B, 3, none⟩ = some (.slice (some ⟨GT, 0, none⟩) sy cT) ∧ (w1.setCell ⟨GT, ys, none⟩ v1).cell? ⟨V.heap.size, 0, none⟩ = some (.int .i64 (ys : Int))) := hid0 (fun w1 v1 hap => by
                have h1 := HS9.out w1 hap.frm
                have ho := Only.setCell w1 GT ys v1
                have h3 := HGT.out
                have h4 := HK.out.only.size
                exact ⟨(HRd.out _ (HPut.out w1 v1 _ hap).only).2.1, (ho.cell (p := ⟨V.heap.size, 0, none⟩) (World.block_lt_of_cell? w1 _ h1.2) (by show ¬ (V.heap.size = GT); omega)).trans h1.2⟩)
              have HfG : Hid (∀ (w1 : World) (v1 : Value), Apd wA w1 lo (.slice at0 n0 ct0) v1 L1 → w1.frozen? ⟨GT, ys, none⟩ = false ∧ w1.cell? ⟨GT, ys, none⟩ = some (.slice at0 n0 ct0)) := hid0 (fun w1 v1 hap => by
                obtain ⟨ps, h1, h2, _⟩ := HPA.out.bag
                obtain ⟨cs, hcs⟩ := own_typ h2.outer (show Value.ownBlock _ = some GT from rfl)
                have hne : ¬ (Value.slice at0 n0 ct0).ownBlock = some GT := fun e => by
                  obtain ⟨cs', hcs'⟩ := own_typ HoB.out e
                  rw [hcs] at hcs'
                  cases hcs'
                have hb := (hap.frm.block GT (Array.getElem?_eq_some_iff.1 hcs).1 hne)
                exact ⟨by simp [World.frozen?, hb, hcs], (hap.frm.cell (p := ⟨GT, ys, none⟩) (World.block_lt_of_cell? wA _ dT) hne).trans dT⟩)
              have HGn : Hid (∀ (w1 : World) (v1 : Value), Apd wA w1 lo (.slice at0 n0 ct0) v1 L1 → PtI w GT cT sy lo ps0 (txF S lt old i r (k + 1)) (w1.setCell ⟨GT, ys, none⟩ v1)) := hid0 (fun w1 v1 hap => (HPut.out w1 v1 _ hap).congr (fun c _ => by
                by_cases hc : c = ys
                · subst hc
                  rw [if_pos rfl, hL1, HTs.out.1, ← hl]
                  unfold wdT
                  rw [← HBo.out, if_neg hb0, List.append_assoc]
                · rw [if_neg hc, HTs.out.2 c hc]))
              clear hwA hbA hrA hPA hts hto hbo hx hxl hxw hrw b3 hput hoB hlB hl hol hL1 hl0 hn0
              go_wp2
              refine wp_region_noPanic ?_
              refine wp_region_held_drew (S := (fun W' => W'.cell? ⟨B, 3, none⟩ = some (.slice (some ⟨GT, 0, none⟩) sy cT) ∧ W'.cell? ⟨V.heap.size, 0, none⟩ = some (.int .i64 (ys : Int)))) (by kernel_rfl) ?_ (fun hHeld => ?_)
              · exact ⟨b3A, d8⟩
              refine tkV (i := 0) (d := some 37) (v := ?_) rfl (by kernel_rfl) (by kernel_rfl) (by kernel_rfl) rfl (fun _ _ _ h => h) (by rfl) ?_ (by assumption) ?_
              rotate_left
              · (intro w hSw; (try dsimp only at hSw); (try simp only [List.getElem_toArray, List.getElem_cons_zero]); go_simp; try with_reducible rfl)
              try simp only [Act.put, List.setIfInBounds_toArray, List.set_cons_zero, List.set_cons_succ]
              refine tkV (i := 1) (d := some 38) (v := ?_) rfl (by kernel_rfl) (by kernel_rfl) (by kernel_rfl) rfl (fun _ _ _ h => h) (by rfl) ?_ (by assumption) ?_
              rotate_left
              · (intro w hSw; (try dsimp only at hSw); (try simp only [List.getElem_toArray, List.getElem_cons_zero, List.getElem_cons_succ]); go_simp; try with_reducible rfl)
              try simp only [Act.put, List.setIfInBounds_toArray, List.set_cons_zero, List.set_cons_succ]
              refine tkV (i := 2) (d := some 39) (v := ?_) rfl (by kernel_rfl) (by kernel_rfl) (by kernel_rfl) rfl (fun _ _ _ h => h) (by rfl) ?_ (by assumption) ?_
              rotate_left
              · (intro w hSw; (try dsimp only at hSw); (try simp only [List.getElem_toArray, List.getElem_cons_zero, List.getElem_cons_succ]); go_simp; try with_reducible rfl)
              try simp only [Act.put, List.setIfInBounds_toArray, List.set_cons_zero, List.set_cons_succ]
              refine tkV (i := 3) (d := some 40) (v := ?_) rfl (by kernel_rfl) (by kernel_rfl) (by kernel_rfl) rfl (fun _ _ _ h => h) (by rfl) ?_ (by assumption) ?_
              rotate_left
              · (intro w hSw; (try dsimp only at hSw); (try simp only [List.getElem_toArray, List.getElem_cons_zero, List.getElem_cons_succ]); go_simp; try with_reducible rfl)
              try simp only [Act.put, List.setIfInBounds_toArray, List.set_cons_zero, List.set_cons_succ]
              refine tkV (i := 4) (d := some 41) (v := ?_) rfl (by kernel_rfl) (by kernel_rfl) (by kernel_rfl) rfl (fun _ _ _ h => h) (by rfl) ?_ (by assumption) ?_
              rotate_left
              · (intro w hSw; (try dsimp only at hSw); (try simp only [List.getElem_toArray, List.getElem_cons_zero, List.getElem_cons_succ]); go_simp; try with_reducible rfl)
              try simp only [Act.put, List.setIfInBounds_toArray, List.set_cons_zero, List.set_cons_succ]
              refine tkV (i := 5) (d := some 42) (v := ?_) rfl (by kernel_rfl) (by kernel_rfl) (by kernel_rfl) rfl (fun _ _ _ h => h) (by rfl) ?_ (by assumption) ?_
              rotate_left
              · (intro w hSw; (try dsimp only at hSw); (try simp only [List.getElem_toArray, List.getElem_cons_zero, List.getElem_cons_succ]); go_simp; try with_reducible rfl)
              try simp only [Act.put, List.setIfInBounds_toArray, List.set_cons_zero, List.set_cons_succ]
              refine tkV (i := 6) (d := some 43) (v := ?_) rfl (by kernel_rfl) (by kernel_rfl) (by kernel_rfl) rfl (fun _ _ _ h => h) (by rfl) ?_ (by assumption) ?_
              rotate_left
              · (intro w hSw; (try dsimp only at hSw); (try simp only [List.getElem_toArray, List.getElem_cons_zero, List.getElem_cons_succ]); go_simp; try with_reducible rfl)
              try simp only [Act.put, List.setIfInBounds_toArray, List.set_cons_zero, List.set_cons_succ]
              refine tkV (i := 7) (d := some 44) (v := ?_) rfl (by kernel_rfl) (by kernel_rfl) (by kernel_rfl) rfl (fun _ _ _ h => h) (by rfl) ?_ (by assumption) ?_
              rotate_left
              · (intro w hSw; (try dsimp only at hSw); (try simp only [List.getElem_toArray, List.getElem_cons_zero, List.getElem_cons_succ]); go_simp; try with_reducible rfl)
              try simp only [Act.put, List.setIfInBounds_toArray, List.set_cons_zero, List.set_cons_succ]
              refine tkV (i := 8) (d := some 45) (v := ?_) rfl (by kernel_rfl) (by kernel_rfl) (by kernel_rfl) rfl (fun _ _ _ h => h) (by rfl) ?_ (by assumption) ?_
              rotate_left
              · (intro w hSw; (try dsimp only at hSw); (try simp only [List.getElem_toArray, List.getElem_cons_zero, List.getElem_cons_succ]); go_simp; try with_reducible rfl)
              try simp only [Act.put, List.setIfInBounds_toArray, List.set_cons_zero, List.set_cons_succ]
              refine tkV (i := 9) (d := some 46) (v := ?_) rfl (by kernel_rfl) (by kernel_rfl) (by kernel_rfl) rfl (fun _ _ _ h => h) (by rfl) ?_ (by assumption) ?_
              rotate_left
              · (intro w hSw; (try dsimp only at hSw); (try simp only [List.getElem_toArray, List.getElem_cons_zero, List.getElem_cons_succ]); go_simp; try with_reducible rfl)
              try simp only [Act.put, List.setIfInBounds_toArray, List.set_cons_zero, List.set_cons_succ]
              refine tkV (i := 10) (d := some 47) (v := ?_) rfl (by kernel_rfl) (by kernel_rfl) (by kernel_rfl) rfl (fun _ _ _ h => h) (by rfl) ?_ (by assumption) ?_
              rotate_left
              · (intro w hSw; (try dsimp only at hSw); (try simp only [List.getElem_toArray, List.getElem_cons_zero, List.getElem_cons_succ]); go_simp; try with_reducible rfl)
              try simp only [Act.put, List.setIfInBounds_toArray, List.set_cons_zero, List.set_cons_succ]
              refine tkV (i := 11) (d := some 48) (v := ?_) rfl (by kernel_rfl) (by kernel_rfl) (by kernel_rfl) rfl (fun _ _ _ h => h) (by rfl) ?_ (by assumption) ?_
              rotate_left
              · (intro w hSw; (try dsimp only at hSw); (try simp only [List.getElem_toArray, List.getElem_cons_zero, List.getElem_cons_succ]); go_simp; try with_reducible rfl)
              try simp only [Act.put, List.setIfInBounds_toArray, List.set_cons_zero, List.set_cons_succ]
              refine tkV (i := 12) (d := some 49) (v := ?_) rfl (by kernel_rfl) (by kernel_rfl) (by kernel_rfl) rfl (fun _ _ _ h => h) (by rfl) ?_ (by assumption) ?_
              rotate_left
              · (intro w hSw; (try dsimp only at hSw); (try simp only [List.getElem_toArray, List.getElem_cons_zero, List.getElem_cons_succ]); go_simp; try with_reducible rfl)
              try simp only [Act.put, List.setIfInBounds_toArray, List.set_cons_zero, List.set_cons_succ]
              refine tkV (i := 14) (d := some 51) (v := ?_) rfl (by kernel_rfl) (by kernel_rfl) (by kernel_rfl) rfl (fun _ _ _ h => h) (by rfl) ?_ (by assumption) ?_
              rotate_left
              · (intro w hSw; (try dsimp only at hSw); (try simp only [List.getElem_toArray, List.getElem_cons_zero, List.getElem_cons_succ]); go_simp; try with_reducible rfl)
              try simp only [Act.put, List.setIfInBounds_toArray, List.set_cons_zero, List.set_cons_succ]
              refine tkV (i := 15) (d := some 52) (v := ?_) rfl (by kernel_rfl) (by kernel_rfl) (by kernel_rfl) rfl (fun _ _ _ h => h) (by rfl) ?_ (by assumption) ?_
              rotate_left
              · (intro w hSw; (try dsimp only at hSw); (try simp only [List.getElem_toArray, List.getElem_cons_zero, List.getElem_cons_succ]); go_simp; try with_reducible rfl)
              try simp only [Act.put, List.setIfInBounds_toArray, List.set_cons_zero, List.set_cons_succ]
              refine tkV (i := 16) (d := some 53) (v := ?_) rfl (by kernel_rfl) (by kernel_rfl) (by kernel_rfl) rfl (fun _ _ _ h => h) (by rfl) ?_ (by assumption) ?_
              rotate_left
              · (intro w hSw; (try dsimp only at hSw); (try simp only [List.getElem_toArray, List.getElem_cons_zero, List.getElem_cons_succ]); go_simp; try with_reducible rfl)
              try simp only [Act.put, List.setIfInBounds_toArray, List.set_cons_zero, List.set_cons_succ]
              refine wpAnyH_ready (rs := [13]) (by kernel_rfl) (by simp) (AllReadyH.cons rfl (fun K hK => ?_) AllReadyH.nil)
              try simp only [List.getElem_toArray, List.getElem_cons_zero, List.getElem_cons_succ]
              go_simp
              refine hK.out _ _ ?_ (fun hHeld13 => ?_)
              · exact ⟨b3A, d8⟩
              clear hK K
              (try simp only [Act.put]); (try simp only [List.setIfInBounds_toArray]); (try simp only [List.set_cons_succ]); (try simp only [List.set_cons_zero])
              refine wpAnyH_ready (rs := [17]) (by kernel_rfl) (by simp) (AllReadyH.cons rfl (fun K hK => ?_) AllReadyH.nil)
              try simp only [List.getElem_toArray, List.getElem_cons_zero, List.getElem_cons_succ]
              go_simp
              refine HAw.out.mono ?_
              rintro e w1 ⟨v1, rfl, hap⟩
              obtain ⟨g1, c1, ev1, _⟩ := own_form hap.own HL1.out
              obtain ⟨n1, hn1⟩ : ∃ n1, n1 = L1.length := ⟨_, rfl⟩
              rw [← hn1] at ev1
              subst ev1
              have HA1 := hid0 hap
              obtain ⟨fG, dG⟩ := HfG.out w1 _ hap
              clear hap hn1
              go_wp2_with fail
              refine hK.out _ _ ?_ (fun hHeld17 => ?_)
              · exact HS9.out w1 HA1.out.frm
              clear hK K
              (try simp only [Act.put]); (try simp only [List.setIfInBounds_toArray]); (try simp only [List.set_cons_succ]); (try simp only [List.set_cons_zero])
              refine tkV (i := 18) (d := some 55) (v := ?_) rfl (by kernel_rfl) (by kernel_rfl) (by kernel_rfl) rfl (fun _ _ _ h => h) (by rfl) ?_ (by assumption) ?_
              rotate_left
              · (intro w hSw; (try dsimp only at hSw); (try simp only [List.getElem_toArray, List.getElem_cons_zero, List.getElem_cons_succ]); go_simp; try with_reducible rfl)
              try simp only [Act.put, List.setIfInBounds_toArray, List.set_cons_zero, List.set_cons_succ]
              refine wpAnyH_ready (rs := [19]) (by kernel_rfl) (by simp) (AllReadyH.cons rfl (fun K hK => ?_) AllReadyH.nil)
              try simp only [List.getElem_toArray, List.getElem_cons_zero, List.getElem_cons_succ]
              go_simp
              refine hK.out _ _ ?_ (fun hHeld19 => ?_)
              · exact HSt.out w1 _ HA1.out
              clear hK K
              (try simp only [Act.put]); (try simp only [List.setIfInBounds_toArray]); (try simp only [List.set_cons_succ]); (try simp only [List.set_cons_zero])
              refine wpAnyH_done (by kernel_rfl) ?_ _
              refine NoPanic.normal ?_
              have HN4 := hid0 (HGn.out w1 _ HA1.out)
              clear d8 d9 dT fT hand b3A fG dG
              go_wp2
              go_roundw
              case rel => exact ⟨k + 1, by omega, by go_num, HN4⟩
              case measure => simp [intOf]; omega
          · obtain rfl : k = r.length := by omega
            have HN3 : Hid (PtI w GT cT sy lo ps0 (fun c => old c ++ encW (andB S (lt c)) (i + 1)) V) := hid0 (HK.out.congr (fun c hc => by
              have h := txF_end HOk.out S old hiL hc
              rw [HRi.out.2] at h
              exact h))
            go_wp2
            go_roundw
            case rel => exact ⟨i + 1, by omega, by go_num, HN3⟩
            case measure => simp [intOf]; omega
    · obtain rfl : i = N := by omega
      go_wp2
      go_end0
      exact ⟨⟨_, rfl⟩, HP.out⟩
end Go.Proofs.YtbbejfkgopcjoaaDoor
