/-
  McAM, McBM.
-/
import Derived.Test.YtbbejfkgopcjoaaDoorNeao
namespace Go.Proofs.YtbbejfkgopcjoaaDoor
open Go.RowKit Go.Shelf
theorem own_front {w : World} {lo : Nat} {t : TypeId} {s n c m : Nat} {a : Option Addr} {xs : List Value} (h : w.ownsRow lo t s (.slice a n c) n xs) (hm : m ≤ n) : w.ownsRow lo t s (.slice a m c) m (xs.take (m * s)) := by
  refine ⟨?_, ?_⟩
  · rw [List.length_take, h.1]
    exact Nat.min_eq_left (Nat.mul_le_mul_right _ hm)
  · rcases h.2 with ⟨e, hn⟩ | ⟨g, cap, cur, e, h1, h2, h3, h4, h5, h6⟩
    · simp only [Value.slice.injEq] at e
      left
      obtain rfl : m = 0 := by omega
      exact ⟨by rw [e.1, e.2.2], rfl⟩
    · simp only [Value.slice.injEq] at e
      right
      refine ⟨g, cap, cur, by rw [e.1, e.2.2], h1, h2, by omega, h4, h5, ?_⟩
      rw [← h6, List.take_take, Nat.min_eq_left (Nat.mul_le_mul_right _ hm)]
/-- Words, one for each symbol. -/
def hvV (H : Nat → Nat) (n : Nat) : List Value := (List.range n).map fun c => .int .u64 (H c : Int)
theorem hvV_len (H : Nat → Nat) (n : Nat) : (hvV H n).length = n := by unfold hvV; simp
theorem hvV_at (H : Nat → Nat) {n i : Nat} (h : i < n) : (hvV H n)[i]? = some (.int .u64 (H i : Int)) := by unfold hvV; simp [h]
def OwnH (W : World) (lo : Nat) (v : Value) (n : Nat) (H : Nat → Nat) : Prop := W.ownsRow lo 105 1 v n (hvV H n)
theorem OwnH.at' {W : World} {lo g n c : Nat} {H : Nat → Nat} (h : OwnH W lo (.slice (some ⟨g, 0, none⟩) n c) n H) {i : Nat} (hi : i < n) : W.cell? ⟨g, i, none⟩ = some (.int .u64 (H i : Int)) ∧ W.frozen? ⟨g, i, none⟩ = false := by
  refine ⟨?_, ?_⟩
  · have := World.ownsRow.cellAt h i (by omega)
    rw [this, hvV_at H hi]
  · obtain ⟨cs, hcs⟩ := own_typ h (show Value.ownBlock _ = some g from rfl)
    simp [World.frozen?, hcs]
theorem OwnH.put {W : World} {lo g n c a : Nat} {H : Nat → Nat} (h : OwnH W lo (.slice (some ⟨g, 0, none⟩) n c) n H) (ha : a < n) (y : Nat) : OwnH (W.setCell ⟨g, a, none⟩ (.int .u64 (y : Int))) lo (.slice (some ⟨g, 0, none⟩) n c) n (fun x => if x = a then y else H x) := by
  have h1 := (World.ownsRow.stored h a (.int .u64 (y : Int))).1
  have e : (hvV H n).set a (.int .u64 (y : Int)) = hvV (fun x => if x = a then y else H x) n := by
    apply List.ext_getElem?
    intro i
    by_cases hi : i < n
    · by_cases hia : a = i
      · subst hia
        rw [List.getElem?_set_self (by rw [hvV_len]; exact ha), hvV_at _ ha, if_pos rfl]
      · rw [List.getElem?_set_ne hia, hvV_at _ hi, hvV_at _ hi, if_neg (fun e => hia e.symm)]
    · rw [List.getElem?_eq_none (by rw [List.length_set, hvV_len]; omega), List.getElem?_eq_none (by rw [hvV_len]; omega)]
  unfold OwnH
  rw [← e]
  exact h1
theorem OwnH.congr {W : World} {lo : Nat} {v : Value} {n : Nat} {H K : Nat → Nat} (h : OwnH W lo v n H) (e : ∀ c, c < n → H c = K c) : OwnH W lo v n K := by
  have e2 : hvV H n = hvV K n := by
    unfold hvV
    apply List.map_congr_left
    intro c hc
    rw [e c (List.mem_range.1 hc)]
  unfold OwnH
  rw [← e2]
  exact h
/-- A symbol is met at the b-th place of a word. -/
def stepL (b : Nat) (st : List Nat × (Nat → Nat)) (c : Nat) : List Nat × (Nat → Nat) := (if st.2 c = 0 then st.1 ++ [c] else st.1, fun x => if x = c then st.2 x ||| 2 ^ b else st.2 x)
/-- So many places of a word. -/
def accL (ch : List (List Nat)) : Nat → List Nat × (Nat → Nat)
  | 0 => ([], fun _ => 0)
  | k + 1 => (ch.getD k []).foldl (stepL k) (accL ch k)
/-- What is true of it: who was met, and which places have him. -/
structure LmOk (st : List Nat × (Nat → Nat)) (M : Nat → Nat → Prop) : Prop where
  nd : st.1.Nodup
  mem : ∀ c, c ∈ st.1 ↔ st.2 c ≠ 0
  bit : ∀ c b, (st.2 c).testBit b = true ↔ M c b
theorem LmOk.step {b : Nat} {st : List Nat × (Nat → Nat)} {M : Nat → Nat → Prop} (h : LmOk st M) (c : Nat) : LmOk (stepL b st c) (fun x k => M x k ∨ (x = c ∧ k = b)) := by
  have hor : ∀ y : Nat, y ||| 2 ^ b ≠ 0 := fun y e => by
    have h1 := congrArg (fun z => z.testBit b) e
    simp [Nat.testBit_or] at h1
  refine ⟨?_, ?_, ?_⟩
  · show (if st.2 c = 0 then st.1 ++ [c] else st.1).Nodup
    by_cases h0 : st.2 c = 0
    · rw [if_pos h0, List.nodup_append]
      refine ⟨h.nd, by simp, fun x hx y hy e => ?_⟩
      rw [List.mem_singleton.1 hy] at e
      rw [e] at hx
      exact (h.mem c).1 hx h0
    · rw [if_neg h0]; exact h.nd
  · intro x
    show x ∈ (if st.2 c = 0 then st.1 ++ [c] else st.1) ↔ (if x = c then st.2 x ||| 2 ^ b else st.2 x) ≠ 0
    by_cases hx : x = c
    · subst hx
      rw [if_pos rfl]
      constructor
      · intro _; exact hor _
      · intro _
        by_cases h0 : st.2 x = 0
        · rw [if_pos h0]; simp
        · rw [if_neg h0]; exact (h.mem x).2 h0
    · rw [if_neg hx, ← h.mem x]
      split
      · simp [hx]
      · rfl
  · intro x k
    show (if x = c then st.2 x ||| 2 ^ b else st.2 x).testBit k = true ↔ _
    by_cases hx : x = c
    · subst hx
      rw [if_pos rfl, Nat.testBit_or, Bool.or_eq_true, h.bit x k, Nat.testBit_two_pow]
      simp [eq_comm]
    · rw [if_neg hx, h.bit x k]
      simp [hx]
theorem LmOk.congr {st : List Nat × (Nat → Nat)} {M K : Nat → Nat → Prop} (h : LmOk st M) (e : ∀ c b, M c b ↔ K c b) : LmOk st K := ⟨h.nd, h.mem, fun c b => (h.bit c b).trans (e c b)⟩
theorem LmOk.list {b : Nat} : ∀ (l : List Nat) {st : List Nat × (Nat → Nat)} {M : Nat → Nat → Prop}, LmOk st M → LmOk (l.foldl (stepL b) st) (fun x k => M x k ∨ (x ∈ l ∧ k = b))
  | [], st, M, h => h.congr (fun c b => by simp)
  | c :: l, st, M, h => by
    rw [List.foldl_cons]
    refine (LmOk.list l (h.step c)).congr (fun x k => ?_)
    simp only [List.mem_cons]
    constructor
    · rintro ((h | h) | h)
      · exact .inl h
      · exact .inr ⟨.inl h.1, h.2⟩
      · exact .inr ⟨.inr h.1, h.2⟩
    · rintro (h | ⟨h | h, h2⟩)
      · exact .inl (.inl h)
      · exact .inl (.inr ⟨h, h2⟩)
      · exact .inr ⟨h, h2⟩
theorem accL_ok (ch : List (List Nat)) : ∀ k, LmOk (accL ch k) (fun c b => b < k ∧ c ∈ ch.getD b [])
  | 0 => ⟨List.nodup_nil, fun c => by simp [accL], fun c b => by simp [accL]⟩
  | k + 1 => by
    show LmOk ((ch.getD k []).foldl (stepL k) (accL ch k)) _
    refine (LmOk.list _ (accL_ok ch k)).congr (fun c b => ?_)
    constructor
    · rintro (⟨h1, h2⟩ | ⟨h1, h2⟩)
      · exact ⟨by omega, h2⟩
      · subst h2; exact ⟨by omega, h1⟩
    · rintro ⟨h1, h2⟩
      by_cases hb : b = k
      · subst hb; exact .inr ⟨h2, rfl⟩
      · exact .inl ⟨by omega, h2⟩
theorem mem_le_sum {l : List Nat} {x : Nat} (h : x ∈ l) : x ≤ l.sum := by
  induction l with
  | nil => cases h
  | cons y r ih =>
    rw [List.sum_cons]
    rcases List.mem_cons.1 h with rfl | h
    · omega
    · have := ih h
      omega
theorem nodup_lt : ∀ (n : Nat) (l : List Nat), l.Nodup → (∀ x ∈ l, x < n) → l.length ≤ n
  | 0, l, _, h => by
    cases l with
    | nil => exact Nat.le_refl _
    | cons x r => exact absurd (h x (.head _)) (Nat.not_lt_zero _)
  | n + 1, l, hd, h => by
    have h1 := nodup_lt n (l.erase n) (hd.erase n) (fun x hx => by
      have h2 := h x (List.mem_of_mem_erase hx)
      have h3 : x ≠ n := fun e => by subst e; exact absurd hx hd.not_mem_erase
      omega)
    have h4 : l.length - 1 ≤ (l.erase n).length := by rw [List.length_erase]; split <;> omega
    omega
/-- So many symbols are met, at most; a word has 64 bits. -/
theorem LmOk.small {st : List Nat × (Nat → Nat)} {M : Nat → Nat → Prop} (h : LmOk st M) (sy : Nat) (hM : ∀ c b, M c b → c < sy ∧ b < 64) : st.1.length ≤ sy ∧ (∀ c ∈ st.1, c < sy) ∧ ∀ c, st.2 c < 18446744073709551616 := by
  have h1 : ∀ c ∈ st.1, c < sy := fun c hc => by
    obtain ⟨b, hb⟩ := Nat.exists_testBit_of_ne_zero ((h.mem c).1 hc)
    exact (hM c b ((h.bit c b).1 hb)).1
  refine ⟨nodup_lt sy _ h.nd h1, h1, fun c => ?_⟩
  refine Nat.lt_pow_two_of_testBit (n := 64) _ (fun k hk => ?_)
  cases e : (st.2 c).testBit k with
  | false => rfl
  | true => have := (hM c k ((h.bit c k).1 e)).2; omega
/-- The places whose letter a symbol is. -/
def ltF (LE : List (List Nat)) : Nat → Nat → Bool := fun c q => decide (c ∈ LE.getD q [])
/-- The i-th word's places. -/
def chL (LE : List (List Nat)) (i : Nat) : List (List Nat) := (LE.drop (64 * i)).take 64
/-- The row of the i-th word. -/
def rowL (LE : List (List Nat)) (i : Nat) : List (Nat × Nat) := (accL (chL LE i) (chL LE i).length).1.map fun c => (c, (accL (chL LE i) (chL LE i).length).2 c)
theorem chL_at (LE : List (List Nat)) (i b c : Nat) : (b < (chL LE i).length ∧ c ∈ (chL LE i).getD b []) ↔ (b < 64 ∧ c ∈ LE.getD (64 * i + b) []) := by
  unfold chL
  rw [List.length_take, List.length_drop]
  constructor
  · rintro ⟨h1, h2⟩
    rw [List.getD_eq_getElem?_getD, List.getElem?_take, if_pos (by omega), List.getElem?_drop, ← List.getD_eq_getElem?_getD] at h2
    exact ⟨by omega, h2⟩
  · rintro ⟨h1, h2⟩
    have h3 : 64 * i + b < LE.length := by
      by_cases h : 64 * i + b < LE.length
      · exact h
      · rw [List.getD_eq_getElem?_getD, List.getElem?_eq_none (by omega)] at h2
        simp at h2
    refine ⟨by omega, ?_⟩
    rw [List.getD_eq_getElem?_getD, List.getElem?_take, if_pos h1, List.getElem?_drop, ← List.getD_eq_getElem?_getD]
    exact h2
theorem accL_word (LE : List (List Nat)) (i c : Nat) : (accL (chL LE i) (chL LE i).length).2 c = wordOf (ltF LE c) i := by
  apply Nat.eq_of_testBit_eq
  intro b
  rw [wordOf_bit, Bool.eq_iff_iff, (accL_ok (chL LE i) _).bit c b, chL_at]
  simp [ltF]
theorem rowL_ok (LE : List (List Nat)) (sy N : Nat) (hs : ∀ l ∈ LE, ∀ c ∈ l, c < sy) (_hN : LE.length ≤ 64 * N) : LtOk N sy ((List.range N).map (rowL LE)) (ltF LE) := by
  have hsy : ∀ i c, c ∈ (rowL LE i).map (·.1) → c < sy := by
    intro i c hc
    unfold rowL at hc
    rw [List.map_map] at hc
    obtain ⟨x, hx, e⟩ := List.mem_map.1 hc
    obtain rfl : x = c := e
    have h1 := ((accL_ok (chL LE i) _).mem x).1 hx
    rw [accL_word] at h1
    obtain ⟨b, hb⟩ := Nat.exists_testBit_of_ne_zero h1
    rw [wordOf_bit] at hb
    simp only [ltF, Bool.and_eq_true, decide_eq_true_eq] at hb
    have h2 := hb.2
    by_cases h : 64 * i + b < LE.length
    · rw [List.getD_eq_getElem?_getD, List.getElem?_eq_getElem h] at h2
      exact hs _ (List.getElem_mem h) x h2
    · rw [List.getD_eq_getElem?_getD, List.getElem?_eq_none (by omega)] at h2
      simp at h2
  refine ⟨by simp, ?_, ?_, ?_, ?_⟩
  · intro r hr x hx
    obtain ⟨i, _, rfl⟩ := List.mem_map.1 hr
    exact hsy i x.1 (List.mem_map.2 ⟨x, hx, rfl⟩)
  · intro r hr
    obtain ⟨i, _, rfl⟩ := List.mem_map.1 hr
    unfold rowL
    rw [List.map_map]
    have h := (accL_ok (chL LE i) (chL LE i).length).nd
    have e : ((fun x : Nat × Nat => x.1) ∘ fun c => (c, (accL (chL LE i) (chL LE i).length).2 c)) = id := rfl
    rw [e, List.map_id]
    exact h
  · intro i hi x hx
    rw [List.getElem_map, List.getElem_range] at hx
    unfold rowL at hx
    obtain ⟨c, _, rfl⟩ := List.mem_map.1 hx
    exact accL_word LE i c
  · intro i hi c _ h
    rw [List.getElem_map, List.getElem_range]
    unfold rowL
    rw [List.map_map]
    refine List.mem_map.2 ⟨c, ((accL_ok (chL LE i) _).mem c).2 ?_, rfl⟩
    rw [accL_word]
    exact h
theorem stepL_len (b : Nat) : ∀ (l : List Nat) (st : List Nat × (Nat → Nat)), (l.foldl (stepL b) st).1.length ≤ st.1.length + l.length
  | [], st => by simp
  | c :: l, st => by
    rw [List.foldl_cons, List.length_cons]
    have h := stepL_len b l (stepL b st c)
    have h2 : (stepL b st c).1.length ≤ st.1.length + 1 := by
      show (if st.2 c = 0 then st.1 ++ [c] else st.1).length ≤ _
      split <;> simp
    omega
theorem accL_len (ch : List (List Nat)) : ∀ k, k ≤ ch.length → (accL ch k).1.length ≤ ((ch.take k).map List.length).sum
  | 0, _ => by simp [accL]
  | k + 1, hk => by
    have h := stepL_len k (ch.getD k []) (accL ch k)
    have h2 := accL_len ch k (by omega)
    rw [sum_take ch (by omega)]
    have e : ch.getD k [] = ch[k] := by rw [List.getD_eq_getElem?_getD, List.getElem?_eq_getElem (by omega)]; rfl
    rw [e] at h
    show ((ch.getD k []).foldl (stepL k) (accL ch k)).1.length ≤ _
    rw [e]
    omega
theorem rowL_len (LE : List (List Nat)) (i : Nat) : (rowL LE i).length ≤ ((chL LE i).map List.length).sum := by
  unfold rowL
  rw [List.length_map]
  have h := accL_len (chL LE i) _ (Nat.le_refl _)
  rw [List.take_length] at h
  exact h
/-- The rows of so many words. -/
def LTs (LE : List (List Nat)) (i : Nat) : List (List (Nat × Nat)) := (List.range i).map (rowL LE)
theorem LTs_succ (LE : List (List Nat)) (i : Nat) : LTs LE (i + 1) = LTs LE i ++ [rowL LE i] := by unfold LTs; rw [List.range_succ, List.map_append]; rfl
theorem LTs_len (LE : List (List Nat)) : ∀ i, (LTs LE i).flatten.length ≤ ((LE.take (64 * i)).map List.length).sum
  | 0 => by simp [LTs]
  | i + 1 => by
    have h1 := LTs_len LE i
    have h2 := rowL_len LE i
    rw [LTs_succ, List.flatten_append, List.length_append, show 64 * (i + 1) = 64 * i + 64 by omega, List.take_add, List.map_append, List.sum_append]
    unfold chL at h2
    simp only [List.flatten_cons, List.flatten_nil, List.append_nil]
    omega
theorem LTs_small (LE : List (List Nat)) (i : Nat) : (LTs LE i).flatten.length ≤ (LE.map List.length).sum := Nat.le_trans (LTs_len LE i) (sum_le LE _)
end Go.Proofs.YtbbejfkgopcjoaaDoor
namespace Go.Proofs.YtbbejfkgopcjoaaDoor
open Go.RowKit Go.Shelf
def OwnL (W : World) (lo : Nat) (v : Value) (l : List (Nat × Nat)) : Prop := W.ownsRow lo 127 2 v l.length (cells2 l)
theorem infoLetter : (Tryd.prog.info? 127).map (fun i => (i.zero, i.size, i.bytes)) = some (some (.agg #[.int .i64 0, .int .u64 0]), 2, 16) := by kernel_rfl
structure ApL (w w' : World) (lo : Nat) (v v' : Value) (l : List (Nat × Nat)) : Prop where
  own : OwnL w' lo v' l
  frm : Only w w' (fun k => v.ownBlock = some k)
  at' : ∀ k, v'.ownBlock = some k → v.ownBlock = some k ∨ w.heap.size ≤ k
theorem apL_one {w w2 : World} {lo : Nat} {v v' : Value} {l : List (Nat × Nat)} {x : Nat × Nat} {o : Obj} (hown : w2.ownsRow lo 127 2 v' (l.length + 1) (cells2 l ++ cells2 [x])) (hg : (w.alloc o).grownBy w2 v.ownBlock) (hat : v'.ownBlock = v.ownBlock ∨ v'.ownBlock = some (w.alloc o).heap.size) : ApL w w2 lo v v' (l ++ [x]) := by
  refine ⟨?_, (Only.alloc w o (fun k => v.ownBlock = some k)).trans (Only.ofGrown hg) (fun _ h => .inl h), fun k hk => ?_⟩
  · unfold OwnL
    rw [List.length_append, List.length_singleton, cells2_app]; exact hown
  · rcases hat with e | e
    · exact .inl (by rw [← e]; exact hk)
    · rw [e] at hk
      cases hk
      right
      simp
theorem OwnL.at' {W : World} {lo : Nat} {v : Value} {l : List (Nat × Nat)} (h : OwnL W lo v l) {i : Nat} (hi : i < l.length) : ∃ g c, v = .slice (some ⟨g, 0, none⟩) l.length c ∧ lo ≤ g ∧ g < W.heap.size ∧ W.cell? ⟨g, i * 2, none⟩ = some (.int .i64 ((l[i]).1 : Int)) ∧ W.cell? ⟨g, i * 2 + 1, none⟩ = some (.int .u64 ((l[i]).2 : Int)) := by
  obtain ⟨g, c, rfl, h1, h2, _⟩ := own_form h (by omega)
  obtain ⟨e1, e2⟩ := cells2_at l i hi
  refine ⟨g, c, rfl, h1, h2, ?_, ?_⟩
  · rw [World.ownsRow.cellAt h (i * 2) (by omega), e1]
  · rw [World.ownsRow.cellAt h (i * 2 + 1) (by omega), e2]
theorem OwnL.wda {W : World} {lo n c : Nat} {a : Option Addr} {l : List (Nat × Nat)} (h : OwnL W lo (.slice a n c) l) : WdA W a l := ⟨fun k hk => by
  obtain ⟨g, c', e, _, h2, h3, h4⟩ := h.at' hk
  have e2 : a = some ⟨g, 0, none⟩ := by injection e
  subst e2
  exact ⟨g, 0, rfl, h2, by rw [Nat.zero_add]; exact h3, by rw [Nat.zero_add]; exact h4⟩⟩
theorem OwnL.cap {W : World} {lo n c : Nat} {a : Option Addr} {l : List (Nat × Nat)} (h : OwnL W lo (.slice a n c) l) : l.length ≤ c := by
  rcases h.2 with ⟨e, e2⟩ | ⟨g, cap, cur, e, _, _, h3, _⟩
  · omega
  · simp only [Value.slice.injEq] at e
    omega
theorem rwl_of {W : World} {lo : Nat} {vF vE : Value} {FO : List (List (Nat × Nat))} (h : OwnL W lo vF FO.flatten) (h0 : FO.flatten = [] → vF = .slice none 0 0) (he : OwnI W lo vE (nI (endsN FO))) : RwW W vF vE FO := by
  obtain ⟨a, c, e⟩ := own_sl h
  subst e
  obtain ⟨b, d, e2, h2⟩ := he.ia
  refine ⟨⟨a, c, rfl, h.cap, h.wda, fun q => ?_⟩, b, d, by rw [e2, nI_len, endsN_len], h2⟩
  have h3 := h0 q
  simp only [Value.slice.injEq] at h3
  exact ⟨h3.1, h3.2.2⟩
/-- Letters of places, handed in: what is written to J changes none. -/
structure LtA (w : World) (J : Nat) (a : Option Addr) (LE : List (List Nat)) : Prop where
  at' : ∀ k (h : k < LE.length), ∃ b off, a = some ⟨b, off, none⟩ ∧ b < w.heap.size ∧ b ≠ J ∧ ∃ a1 c1, w.cell? ⟨b, off + k, none⟩ = some (.slice a1 (LE[k]).length c1) ∧ ∀ V : World, Only w V (fun k => k = J) → IA V a1 (nI LE[k])
theorem LtA.drop {w : World} {J : Nat} {b off : Nat} {LE : List (List Nat)} (h : LtA w J (some ⟨b, off, none⟩) LE) (m : Nat) : LtA w J (some ⟨b, off + m, none⟩) (LE.drop m) := ⟨fun k hk => by
  rw [List.length_drop] at hk
  obtain ⟨b', off', e, h1, h2, a1, c1, h3, h4⟩ := h.at' (m + k) (by omega)
  cases e
  refine ⟨b, off + m, rfl, h1, h2, a1, c1, ?_, ?_⟩
  · rw [Nat.add_assoc, List.getElem_drop]; exact h3
  · rw [List.getElem_drop]; exact h4⟩
/-- What is left of the words of symbols, and which letters are written, behind so many. -/
def hzF (mt : List Nat) (H : Nat → Nat) (m : Nat) : Nat → Nat := fun z => if z ∈ mt.take m then 0 else H z
def itF (mt : List Nat) (H : Nat → Nat) (m : Nat) : List (Nat × Nat) := (mt.take m).map fun c => (c, H c)
theorem hzF_zero (mt : List Nat) (H : Nat → Nat) : hzF mt H 0 = H := by funext z; simp [hzF]
theorem itF_zero (mt : List Nat) (H : Nat → Nat) : itF mt H 0 = [] := by simp [itF]
theorem itF_len (mt : List Nat) (H : Nat → Nat) (m : Nat) : (itF mt H m).length ≤ mt.length := by unfold itF; rw [List.length_map, List.length_take]; omega
theorem itF_succ (mt : List Nat) (H : Nat → Nat) {m : Nat} (h : m < mt.length) : itF mt H (m + 1) = itF mt H m ++ [(mt[m], H mt[m])] := by
  unfold itF
  rw [List.take_add_one, List.getElem?_eq_getElem h, Option.toList_some, List.map_append]
  rfl
theorem hzF_succ (mt : List Nat) (H : Nat → Nat) {m : Nat} (h : m < mt.length) : (fun z => if z = mt[m] then 0 else hzF mt H m z) = hzF mt H (m + 1) := by
  funext z
  unfold hzF
  rw [List.take_add_one, List.getElem?_eq_getElem h, Option.toList_some]
  by_cases hz : z = mt[m]
  · rw [if_pos hz, if_pos (List.mem_append.2 (.inr (List.mem_singleton.2 hz)))]
  · rw [if_neg hz]
    by_cases hz2 : z ∈ mt.take m
    · rw [if_pos hz2, if_pos (List.mem_append.2 (.inl hz2))]
    · rw [if_neg hz2, if_neg (fun h => (List.mem_append.1 h).elim hz2 (fun h => hz (List.mem_singleton.1 h)))]
theorem hzF_at (mt : List Nat) (H : Nat → Nat) {m : Nat} (h : m < mt.length) (hn : mt.Nodup) : hzF mt H m mt[m] = H mt[m] := by
  unfold hzF
  rw [if_neg]
  intro hm'
  obtain ⟨j, hj, e⟩ := List.getElem_of_mem hm'
  rw [List.getElem_take] at e
  have hjm : j < m := by rw [List.length_take] at hj; omega
  exact (List.pairwise_iff_getElem.1 hn) j m (by omega) h hjm e
theorem hzF_end (mt : List Nat) (H : Nat → Nat) (h : ∀ c, c ∈ mt ↔ H c ≠ 0) : hzF mt H mt.length = fun _ => 0 := by
  funext z
  unfold hzF
  rw [List.take_length]
  by_cases hz : z ∈ mt
  · rw [if_pos hz]
  · rw [if_neg hz]
    cases Nat.eq_zero_or_pos (H z) with
    | inl e => exact e
    | inr e => exact absurd ((h z).2 (by omega)) hz
/-- What is left of letters. -/
theorem LtA.rest {w : World} {J b off : Nat} {LE : List (List Nat)} (h : LtA w J (some ⟨b, off, none⟩) LE) (m c : Nat) (hc : LE.length ≤ c) : LtA w J (if c = m then some ⟨b, off, none⟩ else some ⟨b, off + m, none⟩) (LE.drop m) := by
  by_cases e : c = m
  · rw [if_pos e]
    exact ⟨fun k hk => by rw [List.length_drop] at hk; omega⟩
  · rw [if_neg e]
    exact h.drop m
/-- While letters are added. -/
structure AlI (w : World) (J sy : Nat) (vO vF vE vZ vP vC vS vA : Value) (G cH : Nat) (H : Nat → Nat) (met : List Nat) (vT : Value) (it : List (Nat × Nat)) (en : List Nat) (W : World) : Prop where
  only : Only w W (fun k => k = J)
  jo : ∃ vL vM, Jb W J sy vO vF vE vL vM vZ vP vC vS vA ∧ OwnL W w.heap.size vL it ∧ OwnI W w.heap.size vM (nI en) ∧ (it = [] → vL = .slice none 0 0) ∧ Apt vM vT
  hv : OwnH W w.heap.size (.slice (some ⟨G, 0, none⟩) sy cH) sy H
  mt : OwnI W w.heap.size vT (nI met)
theorem Jb.setL {W : World} {J sy : Nat} {vO vF vE vL vM vZ vP vC vS vA : Value} (h : Jb W J sy vO vF vE vL vM vZ vP vC vS vA) (v : Value) : Jb (W.setCell ⟨J, 4, none⟩ v) J sy vO vF vE v vM vZ vP vC vS vA := ⟨heap_setCell_same W _ 4 _ _ _ h.r⟩
theorem Jb.kept {W W' : World} {J sy : Nat} {vO vF vE vL vM vZ vP vC vS vA : Value} (h : Jb W J sy vO vF vE vL vM vZ vP vC vS vA) (e : W'.heap[J]? = W.heap[J]?) : Jb W' J sy vO vF vE vL vM vZ vP vC vS vA := ⟨e.trans h.r⟩
section
variable {w W : World} {J sy : Nat} {vO vF vE vZ vP vC vS vA : Value} {G cH : Nat} {H : Nat → Nat} {met : List Nat} {vT : Value} {it : List (Nat × Nat)} {en : List Nat}
theorem AlI.drew (h : AlI w J sy vO vF vE vZ vP vC vS vA G cH H met vT it en W) : AlI w J sy vO vF vE vZ vP vC vS vA G cH H met vT it en W.drew := by
  obtain ⟨vL, vM, h1, h2, h3, h4, h5⟩ := h.jo
  exact ⟨h.only.trans (Only.drewN W 1 _) (fun _ h => .inl h), ⟨vL, vM, h1.kept rfl, own_blk h2 (fun _ _ => rfl), own_blk h3 (fun _ _ => rfl), h4, h5⟩, own_blk h.hv (fun _ _ => rfl), own_blk h.mt (fun _ _ => rfl)⟩
/-- A word of a symbol is written. -/
theorem AlI.putH (h : AlI w J sy vO vF vE vZ vP vC vS vA G cH H met vT it en W) {a : Nat} (ha : a < sy) (y : Nat) : AlI w J sy vO vF vE vZ vP vC vS vA G cH (fun x => if x = a then y else H x) met vT it en (W.setCell ⟨G, a, none⟩ (.int .u64 (y : Int))) := by
  obtain ⟨vL, vM, h1, h2, h3, h4, h5⟩ := h.jo
  have hO := Only.setCell W G a (.int .u64 (y : Int))
  have hG := World.ownsRow.lt h.hv G rfl
  obtain ⟨cs, hcs⟩ := own_typ h.hv (show Value.ownBlock _ = some G from rfl)
  have k : ∀ {t : TypeId} {s n : Nat} {v : Value} {xs : List Value}, W.ownsRow w.heap.size t s v n xs → t ≠ 105 → (W.setCell ⟨G, a, none⟩ (.int .u64 (y : Int))).ownsRow w.heap.size t s v n xs := fun ho ht => own_blk ho (fun k hk => hO.block k (World.ownsRow.lt ho k hk).2 (fun e => own_ne_blk ho hcs ht (e ▸ hk)))
  have hJG : J ≠ G := fun e => by
    have h6 := h1.r
    rw [e, hcs] at h6
    injection h6 with h6
    injection h6 with _ h7
    exact absurd h7 (by decide)
  exact ⟨h.only.trans hO (fun i hi => .inr (by omega)), ⟨vL, vM, h1.kept (hO.block J (Array.getElem?_eq_some_iff.1 h1.r).1 hJG), k h2 (by decide), k h3 (by decide), h4, h5⟩, h.hv.put ha y, k h.mt (by decide)⟩
/-- A symbol more was met. -/
theorem AlI.meet (h : AlI w J sy vO vF vE vZ vP vC vS vA G cH H met vT it en W) {w1 : World} {v1 : Value} {c : Nat} (g : ApG 3 W w1 w.heap.size vT v1 ((nI met).map (Value.int .i64) ++ [Value.int .i64 (c : Int)])) : AlI w J sy vO vF vE vZ vP vC vS vA G cH H (met ++ [c]) v1 it en w1 := by
  obtain ⟨vL, vM, h1, h2, h3, h4, h5⟩ := h.jo
  have m1 := own_ne_blk h.mt h1.r (by decide)
  have k : ∀ {t : TypeId} {s n : Nat} {v : Value} {xs : List Value}, W.ownsRow w.heap.size t s v n xs → Apt v vT → w1.ownsRow w.heap.size t s v n xs := fun ho ha => own_blk ho (fun k hk => g.frm.block k (World.ownsRow.lt ho k hk).2 (ha k hk))
  exact ⟨h.only.trans g.frm (fun i hi => .inr (World.ownsRow.lt h.mt i hi).1), ⟨vL, vM, h1.kept (g.frm.block J (Array.getElem?_eq_some_iff.1 h1.r).1 m1), k h2 (Apt.ofTyp h2 h.mt (by decide)), k h3 h5, h4, (h5.symm.new h3 g.at').symm⟩, k h.hv (Apt.ofTyp h.hv h.mt (by decide)), ownI_of g.own⟩
/-- A letter more is written. -/
theorem AlI.item (h : AlI w J sy vO vF vE vZ vP vC vS vA G cH H met vT it en W) : ∃ a c, W.cell? ⟨J, 4, none⟩ = some (.slice a it.length c) ∧ W.ownsRow w.heap.size 127 2 (.slice a it.length c) it.length (cells2 it) ∧ ∀ (v1 : Value) (w1 : World) (x : Nat × Nat), ApL W w1 w.heap.size (.slice a it.length c) v1 (it ++ [x]) → (w1.cell? ⟨J, 4, none⟩ = some (.slice a it.length c) ∧ w1.frozen? ⟨J, 4, none⟩ = false) ∧ AlI w J sy vO vF vE vZ vP vC vS vA G cH H met vT (it ++ [x]) en (w1.setCell ⟨J, 4, none⟩ v1) := by
  obtain ⟨vL, vM, h1, h2, h3, h4, h5⟩ := h.jo
  obtain ⟨a, c, e⟩ := own_sl h2
  refine ⟨a, c, by rw [← e]; exact h1.c.2.2.2.2.1, by rw [← e]; exact h2, fun v1 w1 x g => ?_⟩
  rw [← e] at g ⊢
  have m1 := own_ne_blk h2 h1.r (by decide)
  have j2 : Jb w1 J sy vO vF vE vL vM vZ vP vC vS vA := h1.kept (g.frm.block J (Array.getElem?_eq_some_iff.1 h1.r).1 m1)
  have m2 := own_ne_blk g.own j2.r (by decide)
  have hO := Only.setCell w1 J 4 v1
  have hA : Only W (w1.setCell ⟨J, 4, none⟩ v1) (fun k => k = J ∨ vL.ownBlock = some k) := (g.frm.mono (fun _ h => .inr h)).trans hO (fun _ h => .inl (.inl h))
  refine ⟨⟨j2.c.2.2.2.2.1, by simp [World.frozen?, j2.r]⟩, h.only.trans hA (fun i hi => hi.imp id (fun e => (World.ownsRow.lt h2 i e).1)), ⟨v1, vM, j2.setL v1, own_blk g.own (fun k hk => hO.block k (World.ownsRow.lt g.own k hk).2 (fun e => m2 (e ▸ hk))), keepRow h3 hA h1.r (by decide) (Apt.ofTyp h3 h2 (by decide)), fun q => by simp at q, h5⟩, keepRow h.hv hA h1.r (by decide) (Apt.ofTyp h.hv h2 (by decide)), keepRow h.mt hA h1.r (by decide) (Apt.ofTyp h.mt h2 (by decide))⟩
/-- The met ones are forgotten. -/
theorem AlI.fresh (h : AlI w J sy vO vF vE vZ vP vC vS vA G cH H met vT it en W) : ∃ a c, vT = .slice a met.length c ∧ (a = none → c = 0) ∧ AlI w J sy vO vF vE vZ vP vC vS vA G cH H [] (.slice a 0 c) it en W := by
  obtain ⟨vL, vM, h1, h2, h3, h4, h5⟩ := h.jo
  obtain ⟨a, c, e⟩ := own_sl h.mt
  have hm := h.mt
  rw [e] at hm
  unfold OwnI at hm
  have hf := own_front hm (Nat.zero_le _)
  have hb : (Value.slice a 0 c).ownBlock = vT.ownBlock := by rw [e]; cases a <;> rfl
  refine ⟨a, c, by rw [e, nI_len], ?_, h.only, ⟨vL, vM, h1, h2, h3, h4, fun k hk => by rw [hb]; exact h5 k hk⟩, h.hv, ?_⟩
  · intro ha
    rcases hm.2 with ⟨e2, _⟩ | ⟨g, cap, cur, e2, _⟩
    · simp only [Value.slice.injEq] at e2; exact e2.2.2
    · simp only [Value.slice.injEq] at e2; rw [ha] at e2; cases e2.1
  · unfold OwnI
    simpa [nI] using hf
/-- The row ends. -/
theorem AlI.endRow (h : AlI w J sy vO vF vE vZ vP vC vS vA G cH H met vT it en W) (h1 : it.length ≤ 1000000000) (h2 : en.length ≤ 1000000000) : Calls Tryd.prog 72 #[.pointer (some ⟨J, 4, none⟩)] W fun e w' => (∃ v, e = .returned v) ∧ Hid (AlI w J sy vO vF vE vZ vP vC vS vA G cH H met vT it (en ++ [it.length]) w') := by
  obtain ⟨vL, vM, j1, j2, j3, j4, j5⟩ := h.jo
  obtain ⟨a, c, e⟩ := own_sl j2
  obtain ⟨a', c', e'⟩ := own_sl j3
  rw [nI_len] at e'
  subst e
  subst e'
  refine (endL_any J sy w.heap.size it.length c c' en a a' vO vF vE vZ vP vC vS vA W j1 j3 h.only.size h1 h2).mono (fun _ _ ⟨q1, v', g1, g2, g3, g4⟩ => ⟨q1, hid0 ⟨h.only.trans g3 (fun i hi => hi.imp id (fun e => (World.ownsRow.lt j3 i e).1)), ⟨_, v', g1, keepRow j2 g3 j1.r (by decide) (Apt.ofTyp j2 j3 (by decide)), g2, j4, ?_⟩, keepRow h.hv g3 j1.r (by decide) (Apt.ofTyp h.hv j3 (by decide)), keepRow h.mt g3 j1.r (by decide) j5.symm⟩⟩)
  exact j5.new h.mt g4
end
end Go.Proofs.YtbbejfkgopcjoaaDoor
