/-
  McCM, McDM, McDW.
-/
import Derived.Test.YtbbejfkgopcjoaaDoorNeaq
namespace Go.Proofs.YtbbejfkgopcjoaaDoor
open Go.RowKit Go.Shelf
/-- A pattern. -/
structure Pt where
  le : List (List Nat)
  fi : List Nat
  la : List Nat
  fo : List (List Nat)
  em : Bool
  an : Bool
/-- Many patterns as one. -/
structure Jn where
  own : List Nat
  FO : List (List (Nat × Nat))
  la : Nat → Bool
  op : Nat → Bool
  cl : Nat → Bool
  at0 : List Nat
  alw : List Nat
  LE : List (List Nat)
def jNil : Jn := ⟨[], [], fun _ => false, fun _ => false, fun _ => false, [], [], []⟩
def jStep (j : Jn) (nm : Nat) (p : Pt) : Jn where
  own := j.own ++ List.replicate p.fo.length nm
  FO := j.FO ++ p.fo.map (rowW j.own.length)
  la := setL j.la j.own.length p.la
  op := if p.an then j.op else setL j.op j.own.length p.fi
  cl := if p.an then setL j.cl j.own.length p.fi else j.cl
  at0 := if p.em then j.at0 ++ [nm] else j.at0
  alw := if p.em && !p.an then j.alw ++ [nm] else j.alw
  LE := j.LE ++ p.le
/-- The first k patterns, joined. -/
def jAcc (ps : List Pt) : Nat → Jn
  | 0 => jNil
  | k + 1 => match ps[k]? with
    | none => jAcc ps k
    | some p => jStep (jAcc ps k) k p
theorem jAcc_succ {ps : List Pt} {k : Nat} (h : k < ps.length) : jAcc ps (k + 1) = jStep (jAcc ps k) k ps[k] := by
  rw [jAcc, List.getElem?_eq_getElem h]
/-- What places.Check asks of it. -/
structure PtOk (sy : Nat) (p : Pt) : Prop where
  fo : p.fo.length = p.le.length
  fi' : ∀ x ∈ p.fi, x < p.le.length
  la' : ∀ x ∈ p.la, x < p.le.length
  fo' : ∀ l ∈ p.fo, ∀ x ∈ l, x < p.le.length
  le' : ∀ l ∈ p.le, ∀ c ∈ l, c < sy
/-- So many places. -/
def plN (ps : List Pt) (k : Nat) : Nat := ((ps.take k).map fun p => p.le.length).sum
theorem plN_succ {ps : List Pt} {k : Nat} (h : k < ps.length) : plN ps (k + 1) = plN ps k + (ps[k]).le.length := by
  unfold plN
  rw [List.take_add_one, List.getElem?_eq_getElem h, Option.toList_some, List.map_append, List.sum_append]
  simp
theorem plN_le (ps : List Pt) (k : Nat) : plN ps k ≤ plN ps ps.length := by
  unfold plN
  rw [List.take_length]
  have h := congrArg (fun M => (M.map fun p : Pt => p.le.length).sum) (List.take_append_drop k ps)
  simp only [List.map_append, List.sum_append] at h
  omega
/-- All numbers of so many patterns' Follow, and of their letters. -/
def foN (ps : List Pt) (k : Nat) : Nat := ((ps.take k).map fun p => (p.fo.map List.length).sum).sum
def leN (ps : List Pt) (k : Nat) : Nat := ((ps.take k).map fun p => (p.le.map List.length).sum).sum
theorem foN_succ {ps : List Pt} {k : Nat} (h : k < ps.length) : foN ps (k + 1) = foN ps k + ((ps[k]).fo.map List.length).sum := by
  unfold foN
  rw [List.take_add_one, List.getElem?_eq_getElem h, Option.toList_some, List.map_append, List.sum_append]
  simp
theorem leN_succ {ps : List Pt} {k : Nat} (h : k < ps.length) : leN ps (k + 1) = leN ps k + ((ps[k]).le.map List.length).sum := by
  unfold leN
  rw [List.take_add_one, List.getElem?_eq_getElem h, Option.toList_some, List.map_append, List.sum_append]
  simp
theorem foN_le (ps : List Pt) (k : Nat) : foN ps k ≤ foN ps ps.length := by
  unfold foN
  rw [List.take_length]
  have h := congrArg (fun M => (M.map fun p : Pt => (p.fo.map List.length).sum).sum) (List.take_append_drop k ps)
  simp only [List.map_append, List.sum_append] at h
  omega
/-- What is true of patterns once joined, over N words of places. -/
structure JnOk (j : Jn) (sy N : Nat) : Prop where
  fo : j.FO.length = j.own.length
  le : j.LE.length = j.own.length
  fo' : ∀ r ∈ j.FO, ∀ x ∈ r, x.1 < N ∧ x.2 < 18446744073709551616
  la' : ∀ q, j.la q = true → q < j.own.length
  op' : ∀ q, j.op q = true → q < j.own.length
  cl' : ∀ q, j.cl q = true → q < j.own.length
  le' : ∀ l ∈ j.LE, ∀ c ∈ l, c < sy
theorem setL_lt {R : Nat → Bool} {base n : Nat} {L : List Nat} (h : ∀ q, R q = true → q < base) (hL : ∀ x ∈ L, x < n) : ∀ q, setL R base L q = true → q < base + n := by
  intro q hq
  unfold setL at hq
  rw [Bool.or_eq_true, List.any_eq_true] at hq
  rcases hq with ⟨p, hp, e⟩ | hq
  · have := hL p hp
    have := of_decide_eq_true e
    omega
  · have := h q hq
    omega
theorem JnOk.step {j : Jn} {sy N : Nat} (h : JnOk j sy N) {p : Pt} (hp : PtOk sy p) (nm : Nat) (hN : j.own.length + p.le.length ≤ 64 * N) : JnOk (jStep j nm p) sy N := by
  have hlen : (jStep j nm p).own.length = j.own.length + p.le.length := by show (j.own ++ List.replicate p.fo.length nm).length = _; rw [List.length_append, List.length_replicate, hp.fo]
  refine ⟨?_, ?_, ?_, ?_, ?_, ?_, ?_⟩
  · rw [hlen]; show (j.FO ++ p.fo.map (rowW j.own.length)).length = _; rw [List.length_append, List.length_map, h.fo, hp.fo]
  · rw [hlen]; show (j.LE ++ p.le).length = _; rw [List.length_append, h.le]
  · intro r hr
    rcases List.mem_append.1 hr with h1 | h1
    · exact h.fo' r h1
    · obtain ⟨l, hl, rfl⟩ := List.mem_map.1 h1
      exact rowW_ok _ N l (fun x hx => by have := hp.fo' l hl x hx; omega)
  · rw [hlen]; exact setL_lt h.la' hp.la'
  · rw [hlen]
    intro q hq
    show q < j.own.length + p.le.length
    change (if p.an = true then j.op else setL j.op j.own.length p.fi) q = true at hq
    split at hq
    · have := h.op' q hq; omega
    · exact setL_lt h.op' hp.fi' q hq
  · rw [hlen]
    intro q hq
    show q < j.own.length + p.le.length
    change (if p.an = true then setL j.cl j.own.length p.fi else j.cl) q = true at hq
    split at hq
    · exact setL_lt h.cl' hp.fi' q hq
    · have := h.cl' q hq; omega
  · intro l hl
    rcases List.mem_append.1 hl with h1 | h1
    · exact h.le' l h1
    · exact hp.le' l h1
theorem jAcc_own {ps : List Pt} {sy : Nat} (hp : ∀ p ∈ ps, PtOk sy p) : ∀ k, k ≤ ps.length → (jAcc ps k).own.length = plN ps k
  | 0, _ => by simp [jAcc, jNil, plN]
  | k + 1, hk => by
    rw [jAcc_succ (by omega), plN_succ (by omega), ← jAcc_own hp k (by omega)]
    show ((jAcc ps k).own ++ List.replicate (ps[k]).fo.length k).length = _
    rw [List.length_append, List.length_replicate, (hp _ (List.getElem_mem (by omega))).fo]
theorem jAcc_ok {ps : List Pt} {sy N : Nat} (hp : ∀ p ∈ ps, PtOk sy p) (hN : plN ps ps.length ≤ 64 * N) : ∀ k, k ≤ ps.length → JnOk (jAcc ps k) sy N
  | 0, _ => by
    refine ⟨rfl, rfl, ?_, ?_, ?_, ?_, ?_⟩ <;> simp [jAcc, jNil]
  | k + 1, hk => by
    rw [jAcc_succ (by omega)]
    refine (jAcc_ok hp hN k (by omega)).step (hp _ (List.getElem_mem (by omega))) k ?_
    rw [jAcc_own hp k (by omega), ← plN_succ (by omega)]
    exact Nat.le_trans (plN_le ps (k + 1)) hN
theorem jAcc_fo (ps : List Pt) : ∀ k, k ≤ ps.length → (jAcc ps k).FO.flatten.length ≤ foN ps k
  | 0, _ => by simp [jAcc, jNil, foN]
  | k + 1, hk => by
    have h1 := jAcc_fo ps k (by omega)
    rw [jAcc_succ (by omega), foN_succ (by omega)]
    show ((jAcc ps k).FO ++ (ps[k]).fo.map (rowW (jAcc ps k).own.length)).flatten.length ≤ _
    have h2 := FOs_len (jAcc ps k).FO (jAcc ps k).own.length (ps[k]).fo (ps[k]).fo.length (Nat.le_refl _)
    unfold FOs at h2
    rw [List.take_length] at h2
    omega
theorem jAcc_le (ps : List Pt) : ∀ k, k ≤ ps.length → ((jAcc ps k).LE.map List.length).sum = leN ps k
  | 0, _ => by simp [jAcc, jNil, leN]
  | k + 1, hk => by
    rw [jAcc_succ (by omega), leN_succ (by omega), ← jAcc_le ps k (by omega)]
    show (((jAcc ps k).LE ++ (ps[k]).le).map List.length).sum = _
    rw [List.map_append, List.sum_append]
theorem jAcc_nums (ps : List Pt) : ∀ k, k ≤ ps.length → (jAcc ps k).at0.length ≤ k ∧ (jAcc ps k).alw.length ≤ k
  | 0, _ => ⟨Nat.le_refl _, Nat.le_refl _⟩
  | k + 1, hk => by
    obtain ⟨h1, h2⟩ := jAcc_nums ps k (by omega)
    rw [jAcc_succ (by omega)]
    constructor
    · show (if (ps[k]).em then (jAcc ps k).at0 ++ [k] else (jAcc ps k).at0).length ≤ _
      split
      · simp; omega
      · omega
    · show (if (ps[k]).em && !(ps[k]).an then (jAcc ps k).alw ++ [k] else (jAcc ps k).alw).length ≤ _
      split
      · simp; omega
      · omega
/-- Joined in memory, while patterns come. -/
def JoY (W : World) (J sy lo : Nat) (vL vM vZ vP vC : Value) (N : Nat) (j : Jn) : Prop := JoX W J sy lo vL vM vZ vP vC j.own j.FO N j.la j.op j.cl j.at0 j.alw
theorem addP_any (J sy lo nm N GZ GP GC cZ cP cC cL cF cA cO nL : Nat) (aL aF aA aO : Option Addr) (vL vM : Value) (j : Jn) (p : Pt) (w00 w : World)
    (hJ : JoY w J sy lo vL vM (.slice (some ⟨GZ, 0, none⟩) N cZ) (.slice (some ⟨GP, 0, none⟩) N cP) (.slice (some ⟨GC, 0, none⟩) N cC) N j) (hlo : lo ≤ J) (hlw : lo ≤ w.heap.size) (hP : PaA w00 aF aA aO p.fi p.la p.fo) (h00 : w00.heap.size ≤ lo) (hb00 : Below w00.heap.size w00 w) (hN : N ≤ 1000000) (hok : JnOk j sy N) (hp : PtOk sy p) (hol : j.own.length + p.le.length ≤ 64 * N) (hnm : nm ≤ 1000000000) (ha0 : j.at0.length ≤ 100000000) (hal : j.alw.length ≤ 100000000)
    (hl1 : p.fi.length ≤ 100000000) (hl2 : p.la.length ≤ 100000000) (hsum : j.FO.flatten.length + (p.fo.map List.length).sum ≤ 900000000) :
    Calls Tryd.prog 51 #[.pointer (some ⟨J, 0, none⟩), .int .i64 (nm : Int), .agg #[.slice aL nL cL, .slice aF p.fi.length cF, .slice aA p.la.length cA, .slice aO p.fo.length cO, .bool p.em, .bool p.an]] w fun e w' => (∃ v, e = .returned v) ∧ Hid (Below lo w w' ∧ KeT w w' ∧ JoY w' J sy lo vL vM (.slice (some ⟨GZ, 0, none⟩) N cZ) (.slice (some ⟨GP, 0, none⟩) N cP) (.slice (some ⟨GC, 0, none⟩) N cC) N (jStep j nm p)) := by
  have h1 : ∀ x ∈ p.fi, j.own.length + x < 64 * N := fun x hx => by have := hp.fi' x hx; omega
  have h2 : ∀ x ∈ p.la, j.own.length + x < 64 * N := fun x hx => by have := hp.la' x hx; omega
  have h3 : ∀ l ∈ p.fo, ∀ x ∈ l, j.own.length + x < 64 * N := fun l hl x hx => by have := hp.fo' l hl x hx; omega
  have h4 : j.own.length + p.fo.length ≤ 64 * N := by rw [hp.fo]; exact hol
  have h5 : j.FO.length ≤ 64000000 := by rw [hok.fo]; omega
  cases han : p.an with
  | false =>
    refine (add_false J sy lo nm N GZ GP GC cZ cP cC cL cF cA cO nL aL aF aA aO p.em vL vM j.own j.FO j.la j.op j.cl j.at0 j.alw p.fi p.la p.fo w00 w hJ hlo hlw hP h00 hb00 hN h4 hnm hok.fo' h5 ha0 hal h1 h2 h3 hl1 hl2 hsum).mono (fun e w' ⟨q1, ⟨q2, q3⟩, q4⟩ => ⟨q1, hid0 ⟨q2, q3, ?_⟩⟩)
    unfold JoY jStep
    rw [han]
    simpa using q4
  | true =>
    refine (add_true J sy lo nm N GZ GP GC cZ cP cC cL cF cA cO nL aL aF aA aO p.em vL vM j.own j.FO j.la j.op j.cl j.at0 j.alw p.fi p.la p.fo w00 w hJ hlo hlw hP h00 hb00 hN h4 hnm hok.fo' h5 ha0 hal h1 h2 h3 hl1 hl2 hsum).mono (fun e w' ⟨q1, ⟨q2, q3⟩, q4⟩ => ⟨q1, hid0 ⟨q2, q3, ?_⟩⟩)
    unfold JoY jStep
    rw [han]
    simpa using q4
end Go.Proofs.YtbbejfkgopcjoaaDoor
namespace Go.Proofs.YtbbejfkgopcjoaaDoor
open Go.RowKit Go.Shelf
theorem chooseW {P : Nat → Value → Prop} : ∀ n, (∀ k, k < n → ∃ u, P k u) → ∃ us : List Value, us.length = n ∧ ∀ k, k < n → ∃ u, us[k]? = some u ∧ P k u
  | 0, _ => ⟨[], rfl, fun k hk => absurd hk (Nat.not_lt_zero _)⟩
  | n + 1, h => by
    obtain ⟨us, h1, h2⟩ := chooseW n (fun k hk => h k (by omega))
    obtain ⟨u, hu⟩ := h n (by omega)
    refine ⟨us ++ [u], by simp [h1], fun k hk => ?_⟩
    by_cases hkn : k = n
    · subst hkn
      exact ⟨u, by rw [← h1]; simp, hu⟩
    · obtain ⟨x, hx, hP⟩ := h2 k (by omega)
      exact ⟨x, by rw [List.getElem?_append_left (by omega)]; exact hx, hP⟩
/-- A row of one's own that holds lists which lay there before. -/
structure LrO (w00 W : World) (lo : Nat) (v : Value) (LE : List (List Nat)) : Prop where
  own : ∃ VS, W.ownsRow lo 34 1 v LE.length VS ∧ ∀ k (h : k < LE.length), ∃ a1 c1, VS[k]? = some (.slice a1 (LE[k]).length c1) ∧ IA w00 a1 (nI LE[k])
theorem LrO.kept {w00 W W' : World} {lo : Nat} {v : Value} {LE : List (List Nat)} (h : LrO w00 W lo v LE) (hk : ∀ k, v.ownBlock = some k → W'.heap[k]? = W.heap[k]?) : LrO w00 W' lo v LE := by
  obtain ⟨VS, h1, h2⟩ := h.own
  exact ⟨VS, own_blk h1 hk, h2⟩
set_option maxRecDepth 10000 in
theorem wpList_spreadW {ops : Array Oper} {rest : List Oper} {op : Oper} {a : Act} {w w00 : World} {Q : Exit → Act → World → Prop} (hgd : op.guard = none) (s x : Operand) (ho : op.op = .call { callee := .builtin .append, args := #[s, x], argTypes := #[26, 26] })
    (v : Value) (L M : List (List Nat)) (aX : Option Addr) (n cX lo : Nat) (hs : a.eval s = v) (hx : a.eval x = .slice aX n cX) (hn : n = M.length) (hnil : aX = none → cX = 0) (hv : LrO w00 w lo v L) (ha : RwA w00 aX (M.map nI)) (hb : Below w00.heap.size w00 w) (hl : L.length + M.length ≤ 1000000000) (hlo : lo ≤ w.heap.size)
    (h : ∀ v' w', LrO w00 w' lo v' (L ++ M) → w.grownBy w' v.ownBlock → wpList Tryd.prog ops Q rest (a.put op.dst v') w') : wpList Tryd.prog ops Q (op :: rest) a w := by
  obtain ⟨i0, hi, hz0, hz1, hz2⟩ := info_parts infoIntsM
  obtain ⟨VS, hv1, hv2⟩ := hv.own
  subst hn
  cases aX with
  | none =>
    have hM : M = [] := by
      cases M with
      | nil => rfl
      | cons y r => obtain ⟨b, off, e, _⟩ := ha.at' 0 (by simp); cases e
    subst hM
    have hc := hnil rfl
    subst hc
    refine wpList_append_own_none hgd s x 26 ho lo 34 i0 1 Tryd.underlying26 hi v L.length VS hs hv1 hx (h v w (by rw [List.append_nil]; exact hv) ⟨rfl, rfl, rfl, Nat.le_refl _, fun _ _ _ => rfl⟩)
  | some ad =>
    obtain ⟨us, hu1, hu2⟩ := chooseW (P := fun k u => ∃ (hk : k < M.length) (b off : Nat) (a1 : Option Addr) (c1 : Nat), ad = ⟨b, off, none⟩ ∧ w00.cell? ⟨b, off + k, none⟩ = some u ∧ u = .slice a1 (M[k]).length c1 ∧ IA w00 a1 (nI M[k]) ∧ b < w00.heap.size) M.length (fun k hk => by
      obtain ⟨b, off, e, hbl, a1, c1, h1, h2⟩ := ha.at' k (by rw [List.length_map]; exact hk)
      injection e with e
      rw [List.getElem_map, nI_len] at h1
      rw [List.getElem_map] at h2
      exact ⟨_, hk, b, off, a1, c1, e, h1, rfl, h2, hbl⟩)
    have hone : ∀ u ∈ us, u.oneCell' = true := fun u hu => by
      obtain ⟨k, hk, e⟩ := List.getElem_of_mem hu
      obtain ⟨u', e1, _, b, off, a1, c1, _, _, e2, _⟩ := hu2 k (by omega)
      rw [List.getElem?_eq_getElem hk, e] at e1
      injection e1 with e1
      rw [e1, e2]; rfl
    refine wpList_append_own _ hgd s x 26 ho lo 34 i0 (.slice none 0 0) 1 24 Tryd.underlying26 hi hz0 hz1 hz2 rfl (by decide) v L.length VS hs hv1 ad M.length cX us hx (by omega) (fun j u hj => ?_) hone (by unfold maxLen; omega) (by omega) hlo (fun v' w' h1 h2 _ => h v' w' ⟨VS ++ us, by rw [List.length_append]; exact h1, fun k hk => ?_⟩ h2)
    · have hjl : j < us.length := (List.getElem?_eq_some_iff.1 hj).1
      obtain ⟨u', e1, _, b, off, a1, c1, e2, e3, _, _, hbl⟩ := hu2 j (by omega)
      rw [hj] at e1
      injection e1 with e1
      subst e2
      rw [e1, Addr.add_mid]
      exact (hb.cell (p := ⟨b, off + j, none⟩) hbl).trans e3
    · have hVl : VS.length = L.length := by have := hv1.1; omega
      by_cases hkL : k < L.length
      · obtain ⟨a1, c1, e1, e2⟩ := hv2 k hkL
        refine ⟨a1, c1, ?_, ?_⟩
        · rw [List.getElem?_append_left (by omega), e1, List.getElem_append_left hkL]
        · rw [List.getElem_append_left hkL]; exact e2
      · have hk2 : k - L.length < M.length := by rw [List.length_append] at hk; omega
        obtain ⟨u', e1, _, b, off, a1, c1, _, _, e2, e3, _⟩ := hu2 (k - L.length) hk2
        refine ⟨a1, c1, ?_, ?_⟩
        · rw [List.getElem?_append_right (by omega), hVl, e1, e2, List.getElem_append_right (by omega)]
        · rw [List.getElem_append_right (by omega)]; exact e3
/-- Patterns in memory. -/
structure PaL (w : World) (a : Option Addr) (ps : List Pt) : Prop where
  at' : ∀ k (h : k < ps.length), ∃ b off, a = some ⟨b, off, none⟩ ∧ b < w.heap.size ∧ ∃ (aL aF aA aO : Option Addr) (cL cF cA cO : Nat), w.cell? ⟨b, off + k * 6, none⟩ = some (.slice aL (ps[k]).le.length cL) ∧ w.cell? ⟨b, off + k * 6 + 1, none⟩ = some (.slice aF (ps[k]).fi.length cF) ∧ w.cell? ⟨b, off + k * 6 + 2, none⟩ = some (.slice aA (ps[k]).la.length cA) ∧ w.cell? ⟨b, off + k * 6 + 3, none⟩ = some (.slice aO (ps[k]).fo.length cO) ∧ w.cell? ⟨b, off + k * 6 + 4, none⟩ = some (.bool (ps[k]).em) ∧ w.cell? ⟨b, off + k * 6 + 5, none⟩ = some (.bool (ps[k]).an) ∧ RwA w aL ((ps[k]).le.map nI) ∧ (aL = none → cL = 0) ∧ PaA w aF aA aO (ps[k]).fi (ps[k]).la (ps[k]).fo
end Go.Proofs.YtbbejfkgopcjoaaDoor
namespace Go.Proofs.YtbbejfkgopcjoaaDoor
open Go.RowKit Go.Shelf
/-- Patterns that are joined, in memory. -/
structure JoF (W : World) (J sy lo N : Nat) (j : Jn) : Prop where
  lo' : lo ≤ J
  jo : ∃ vO vF vE vL vM GZ GP GC cZ cP cC vS vA, JoS W J sy lo vO vF vE vL vM (.slice (some ⟨GZ, 0, none⟩) N cZ) (.slice (some ⟨GP, 0, none⟩) N cP) (.slice (some ⟨GC, 0, none⟩) N cC) vS vA j.own j.FO.flatten (endsN j.FO) N j.la j.op j.cl j.at0 j.alw ∧ RwW W vF vE j.FO ∧ RwW W vL vM (LTs j.LE N)
/-- While they come: joined, the letters, the frame. -/
structure JfI (w : World) (J sy N GZ GP GC : Nat) (j : Jn) (vT : Value) (W : World) : Prop where
  bel : Below w.heap.size w W
  jo : JoY W J sy w.heap.size (.slice none 0 0) (.slice none 0 0) (.slice (some ⟨GZ, 0, none⟩) N N) (.slice (some ⟨GP, 0, none⟩) N N) (.slice (some ⟨GC, 0, none⟩) N N) N j
  lt : LrO w W w.heap.size vT j.LE
theorem JoY.empty {w W : World} {J sy N T GO GZ GP GC : Nat} (hJ : W.heap[J]? = some (.cells #[.int .i64 (sy : Int), .slice (some ⟨GO, 0, none⟩) 0 T, .slice none 0 0, .slice none 0 0, .slice none 0 0, .slice none 0 0, .slice (some ⟨GZ, 0, none⟩) N N, .slice (some ⟨GP, 0, none⟩) N N, .slice (some ⟨GC, 0, none⟩) N N, .slice none 0 0, .slice none 0 0] 91 (0, 0)))
    (hO : W.heap[GO]? = some (.cells (madeCells #[.int .i64 0] T) 3 (0, 0))) (hZ : W.heap[GZ]? = some (.cells (madeCells #[.int .u64 0] N) 105 (0, 0))) (hP : W.heap[GP]? = some (.cells (madeCells #[.int .u64 0] N) 105 (0, 0))) (hC : W.heap[GC]? = some (.cells (madeCells #[.int .u64 0] N) 105 (0, 0)))
    (hT : T ≤ 64000000) (hN : N ≤ 1000000) (h1 : w.heap.size ≤ GO) (h2 : w.heap.size ≤ GZ) (h3 : w.heap.size ≤ GP) (h4 : w.heap.size ≤ GC) (n1 : GZ ≠ GP) (n2 : GZ ≠ GC) (n3 : GP ≠ GC) : JoY W J sy w.heap.size (.slice none 0 0) (.slice none 0 0) (.slice (some ⟨GZ, 0, none⟩) N N) (.slice (some ⟨GP, 0, none⟩) N N) (.slice (some ⟨GC, 0, none⟩) N N) N jNil := by
  have hu : ∀ G, W.heap[G]? = some (.cells (madeCells #[.int .u64 0] N) 105 (0, 0)) → w.heap.size ≤ G → OwnU W w.heap.size (.slice (some ⟨G, 0, none⟩) N N) N (fun _ => false) := fun G hG hb => by
    unfold OwnU
    rw [wdV_none]
    refine ⟨by simp, .inr ⟨G, N, _, rfl, hb, hG, Nat.le_refl _, by unfold maxLen; omega, by rw [size_madeCells]; simp, ?_⟩⟩
    apply List.ext_getElem
    · simp [size_madeCells]
    · intro k q1 q2
      simp [madeCells, Nat.mod_one]
  have hne : ∀ {a b : Nat} {c d e f : Nat}, a ≠ b → Apt (.slice (some ⟨a, 0, none⟩) c d) (.slice (some ⟨b, 0, none⟩) e f) := fun h k h1 h2 => by
    simp only [Value.ownBlock, Option.some.injEq] at h1 h2
    exact h (h1.trans h2.symm)
  have hn0 : ∀ v : Value, Apt v (.slice none 0 0) := fun v k _ h => by cases h
  have hn1 : ∀ v : Value, Apt (.slice none 0 0) v := fun v k h => by cases h
  refine ⟨_, _, _, _, _, ⟨⟨hJ⟩, ?_, World.ownsRow_nil _ _ _ _, World.ownsRow_nil _ _ _ _, hu GZ hZ h2, hu GP hP h3, hu GC hC h4, World.ownsRow_nil _ _ _ _, World.ownsRow_nil _ _ _ _, hn0 _, hn0 _, hn0 _, hn0 _, hn0 _, hn0 _, hne n1, hne n2, hne n3⟩, fun _ => rfl⟩
  exact ⟨by simp [nI, jNil], .inr ⟨GO, T, _, rfl, h1, hO, by simp [nI, jNil], by unfold maxLen; omega, by rw [size_madeCells]; simp, by simp [nI, jNil]⟩⟩
theorem alloc5 (W : World) (o0 o1 o2 o3 o4 : Obj) : ((((((W.alloc o0).alloc o1).alloc o2).alloc o3).alloc o4).drew).heap[W.heap.size]? = some o0 ∧ ((((((W.alloc o0).alloc o1).alloc o2).alloc o3).alloc o4).drew).heap[W.heap.size + 1]? = some o1 ∧ ((((((W.alloc o0).alloc o1).alloc o2).alloc o3).alloc o4).drew).heap[W.heap.size + 1 + 1]? = some o2 ∧ ((((((W.alloc o0).alloc o1).alloc o2).alloc o3).alloc o4).drew).heap[W.heap.size + 1 + 1 + 1]? = some o3 ∧ ((((((W.alloc o0).alloc o1).alloc o2).alloc o3).alloc o4).drew).heap[W.heap.size + 1 + 1 + 1 + 1]? = some o4 := by
  have e : ((((((W.alloc o0).alloc o1).alloc o2).alloc o3).alloc o4).drew).heap = ((((W.heap.push o0).push o1).push o2).push o3).push o4 := rfl
  have h1 : ∀ (a : Array Obj) (x : Obj), (a.push x)[a.size]? = some x := fun a x => by simp
  have h2 : ∀ (a : Array Obj) (x : Obj) (k : Nat), k < a.size → (a.push x)[k]? = a[k]? := fun a x k h => by rw [Array.getElem?_push, if_neg (by omega)]
  have s1 : (W.heap.push o0).size = W.heap.size + 1 := by simp
  have s2 : ((W.heap.push o0).push o1).size = W.heap.size + 1 + 1 := by simp
  have s3 : (((W.heap.push o0).push o1).push o2).size = W.heap.size + 1 + 1 + 1 := by simp
  have s4 : ((((W.heap.push o0).push o1).push o2).push o3).size = W.heap.size + 1 + 1 + 1 + 1 := by simp
  rw [e]
  refine ⟨?_, ?_, ?_, ?_, ?_⟩
  · rw [h2 _ _ _ (by omega), h2 _ _ _ (by omega), h2 _ _ _ (by omega), h2 _ _ _ (by omega), h1]
  · rw [h2 _ _ _ (by omega), h2 _ _ _ (by omega), h2 _ _ _ (by omega), ← s1, h1]
  · rw [h2 _ _ _ (by omega), h2 _ _ _ (by omega), ← s2, h1]
  · rw [h2 _ _ _ (by omega), ← s3, h1]
  · rw [← s4, h1]
theorem JoS.other {W W' : World} {J sy lo lo' : Nat} {vO vF vE vL vM vZ vP vC vS vA : Value} {own : List Nat} {it : List (Nat × Nat)} {en : List Nat} {N : Nat} {la op cl : Nat → Bool} {at0 alw : List Nat} {t : TypeId} {s n : Nat} {v : Value} {xs : List Value} (h : JoS W J sy lo vO vF vE vL vM vZ vP vC vS vA own it en N la op cl at0 alw) (hv : W.ownsRow lo' t s v n xs) (ht : t ≠ 3 ∧ t ≠ 105 ∧ t ≠ 130 ∧ t ≠ 91) (hO : Only W W' (fun k => v.ownBlock = some k)) : JoS W' J sy lo vO vF vE vL vM vZ vP vC vS vA own it en N la op cl at0 alw := by
  have k : ∀ {t' : TypeId} {s' n' : Nat} {u : Value} {ys : List Value}, W.ownsRow lo t' s' u n' ys → t' ≠ t → W'.ownsRow lo t' s' u n' ys := fun ho hne => own_blk ho (fun k hk => hO.block k (World.ownsRow.lt ho k hk).2 (Apt.ofTyp ho hv hne k hk))
  exact ⟨⟨(hO.block J (Array.getElem?_eq_some_iff.1 h.b.r).1 (own_ne_blk hv h.b.r ht.2.2.2)).trans h.b.r⟩, k h.o ht.1.symm, k h.f ht.2.2.1.symm, k h.e ht.1.symm, k h.z ht.2.1.symm, k h.p ht.2.1.symm, k h.c ht.2.1.symm, k h.s ht.1.symm, k h.a ht.1.symm, h.qoe, h.qos, h.qoa, h.qes, h.qea, h.qsa, h.qzp, h.qzc, h.qpc⟩
theorem JoS.letters {W W' : World} {J sy lo : Nat} {vO vF vE vL vM vL' vM' vZ vP vC vS vA : Value} {own : List Nat} {it : List (Nat × Nat)} {en : List Nat} {N : Nat} {la op cl : Nat → Bool} {at0 alw : List Nat} (h : JoS W J sy lo vO vF vE vL vM vZ vP vC vS vA own it en N la op cl at0 alw) (hb : Jb W' J sy vO vF vE vL' vM' vZ vP vC vS vA) (hO : Only W W' (fun k => k = J)) : JoS W' J sy lo vO vF vE vL' vM' vZ vP vC vS vA own it en N la op cl at0 alw := by
  have k : ∀ {t' : TypeId} {s' n' : Nat} {u : Value} {ys : List Value}, W.ownsRow lo t' s' u n' ys → t' ≠ 91 → W'.ownsRow lo t' s' u n' ys := fun ho hne => own_blk ho (fun k hk => hO.block k (World.ownsRow.lt ho k hk).2 (fun e => own_ne_blk ho h.b.r hne (e ▸ hk)))
  exact ⟨hb, k h.o (by decide), k h.f (by decide), k h.e (by decide), k h.z (by decide), k h.p (by decide), k h.c (by decide), k h.s (by decide), k h.a (by decide), h.qoe, h.qos, h.qoa, h.qes, h.qea, h.qsa, h.qzp, h.qzc, h.qpc⟩
theorem LrO.typ {w00 W : World} {lo : Nat} {v : Value} {LE : List (List Nat)} (h : LrO w00 W lo v LE) : ∃ VS, W.ownsRow lo 34 1 v LE.length VS := ⟨h.own.choose, h.own.choose_spec.1⟩
/-- A new block, then a pattern added: the letters stay. -/
theorem LrO.keT {w00 W W' : World} {lo : Nat} {v : Value} {LE : List (List Nat)} (h : LrO w00 W lo v LE) (hk : KeT W W') : LrO w00 W' lo v LE := h.kept (fun k hb => by
  obtain ⟨VS, h1⟩ := h.typ
  obtain ⟨cs, hcs⟩ := own_typ h1 hb
  exact hk.kp k cs _ _ hcs (by decide) (by decide) (by decide) (by decide))
theorem LrO.lta {w00 W : World} {lo J n c : Nat} {a : Option Addr} {LE : List (List Nat)} {cs0 : Array Value} {f0 : Nat × Nat} (h : LrO w00 W lo (.slice a n c) LE) (hJ : W.heap[J]? = some (.cells cs0 91 f0)) (hb : Below w00.heap.size w00 W) (hJl : w00.heap.size ≤ J) : LtA W J a LE ∧ n = LE.length ∧ LE.length ≤ c := by
  obtain ⟨VS, h1, h2⟩ := h.own
  refine ⟨⟨fun k hk => ?_⟩, ?_, ?_⟩
  · obtain ⟨g, c', e, _, hg, _⟩ := own_form h1 (by omega)
    simp only [Value.slice.injEq] at e
    obtain ⟨a1, c1, e1, e2⟩ := h2 k hk
    refine ⟨g, 0, e.1, hg, fun eq => own_ne_blk h1 hJ (by decide) (by rw [e.1, ← eq]; rfl), a1, c1, ?_, fun V hV => e2.past (hV.afterBelow hb hb.size (fun i hi => by rw [hi]; exact hJl))⟩
    rw [e.1, e.2.1] at h1
    rw [Nat.zero_add, World.ownsRow.cellAt h1 k (by omega)]
    exact e1
  · obtain ⟨a', c', e⟩ := own_sl h1
    simp only [Value.slice.injEq] at e
    exact e.2.1
  · rcases h1.2 with ⟨e, e2⟩ | ⟨g, cap, cur, e, _, _, h3, _⟩
    · omega
    · simp only [Value.slice.injEq] at e
      omega
set_option maxRecDepth 10000 in
set_option maxHeartbeats 6400000 in
theorem joinedOf_any (sy c N : Nat) (a : Option Addr) (ps : List Pt) (w : World) (hps : PaL w a ps) (hok : ∀ p ∈ ps, PtOk sy p) (hsy : sy ≤ 16384) (hpl : ps.length ≤ 10000000) (hT : plN ps ps.length ≤ 64000000) (hNe : N = (plN ps ps.length + 63) / 64) (hfo : foN ps ps.length ≤ 900000000) (hle : leN ps ps.length ≤ 900000000) (hfi : ∀ p ∈ ps, p.fi.length ≤ 100000000 ∧ p.la.length ≤ 100000000) :
    Calls Tryd.prog 28 #[.slice a ps.length c, .int .i64 (sy : Int)] w fun e w' => ∃ J, e = .returned (.pointer (some ⟨J, 0, none⟩)) ∧ JoF w' J sy w.heap.size N (jAcc ps ps.length) ∧ Below w.heap.size w w' := by
  obtain ⟨T, hTe⟩ : ∃ T, T = plN ps ps.length := ⟨_, rfl⟩
  rw [← hTe] at hT hNe
  obtain ⟨jf, hjf⟩ : ∃ jf, jf = jAcc ps ps.length := ⟨_, rfl⟩
  rw [← hjf]
  have HJf := hid0 hjf
  clear hjf
  have hNb : N ≤ 1000000 := by omega
  have HPs := hid0 hps
  have HOk := hid0 hok
  have HTe := hid0 (And.intro hTe hNe)
  have HB := hid0 (And.intro hfo (And.intro hle hfi))
  have hdiv : ((T : Int) + 64 - 1) / 64 = (N : Int) := by omega
  have hdiv2 : ((T : Int) + 63) / 64 = (N : Int) := by omega
  have hpos : (0 : Int) ≤ (T : Int) + 64 - 1 := by omega
  have hpos2 : (0 : Int) ≤ (T : Int) + 63 := by omega
  have hmk1 : ∀ V : World, (Instr.makeSlice 34 (.int .i64 0) (.int .i64 (T : Int))).run Tryd.prog V = .ok (.slice (some ⟨V.heap.size, 0, none⟩) 0 T) (V.alloc (.cells (madeCells #[.int .i64 0] T) 3)) := fun V => made_run (t := 34) Tryd.underlying34 infoInt 0 T (Nat.zero_le _) (by omega) (by omega) V
  have hmk2 : ∀ V : World, (Instr.makeSlice 83 (.int .i64 (N : Int)) (.int .i64 (N : Int))).run Tryd.prog V = .ok (.slice (some ⟨V.heap.size, 0, none⟩) N N) (V.alloc (.cells (madeCells #[.int .u64 0] N) 105)) := fun V => made_run (t := 83) Tryd.underlying83 infoU64z N N (Nat.le_refl _) (by omega) (by omega) V
  have hmk3 : ∀ V : World, (Instr.makeSlice 26 (.int .i64 0) (.int .i64 (T : Int))).run Tryd.prog V = .ok (.slice (some ⟨V.heap.size, 0, none⟩) 0 T) (V.alloc (.cells (madeCells #[.slice none 0 0] T) 34)) := fun V => made_run (t := 26) Tryd.underlying26 infoIntsM 0 T (Nat.zero_le _) (by omega) (by omega) V
  have hplI : (ps.length : Int) ≤ 10000000 := by omega
  clear hps hok hfo hle hfi hTe hNe
  go_enter Tryd.func28, Tryd.ntmps28
  go_wp2
  go_loopw [5, 15] (fun s i wr => ∃ k : Nat, k ≤ ps.length ∧ s = .int .i64 (plN ps k : Int) ∧ i = .int .i64 (k : Int) ∧ Hid (Below w.heap.size w wr)) (fun _ i _ => ps.length - (intOf i).toNat)
  case atStart => exact ⟨0, Nat.zero_le _, rfl, rfl, hid0 (Below.refl _ _)⟩
  case round =>
    obtain ⟨k, hk, rfl, rfl, HW⟩ := hrel
    by_cases hkl : k < ps.length
    · clear hmk1 hmk2 hmk3 hdiv hdiv2 hpos hpos2
      obtain ⟨b, off, eb, hbw, aL, aF, aA, aO, cL, cF, cA, cO, y0, y1, y2, y3, y4, y5, _⟩ := HPs.out.at' k hkl
      subst eb
      have tr : ∀ i, wr.cell? ⟨b, i, none⟩ = w.cell? ⟨b, i, none⟩ := fun i => HW.out.cell (p := ⟨b, i, none⟩) hbw
      have z0 := (tr _).trans y0
      have z1 := (tr _).trans y1
      have z2 := (tr _).trans y2
      have z3 := (tr _).trans y3
      have z4 := (tr _).trans y4
      have z5 := (tr _).trans y5
      have hpk := plN_succ hkl
      have hpb : plN ps (k + 1) ≤ 64000000 := by have := plN_le ps (k + 1); have := HTe.out.1; omega
      clear tr y0 y1 y2 y3 y4 y5
      generalize (ps[k]).le.length = nL at *
      generalize (ps[k]).fi.length = nF at *
      generalize (ps[k]).la.length = nA at *
      generalize (ps[k]).fo.length = nO at *
      generalize (ps[k]).em = em at *
      generalize (ps[k]).an = an at *
      obtain ⟨pk, hpk0⟩ : ∃ pk, pk = plN ps k := ⟨_, rfl⟩
      obtain ⟨pk1, hpk1⟩ : ∃ pk1, pk1 = plN ps (k + 1) := ⟨_, rfl⟩
      rw [← hpk0, ← hpk1] at hpk
      rw [← hpk1] at hpb
      have HPk := hid0 (And.intro hpk0 hpk1)
      rw [← hpk0]
      clear hpk0 hpk1
      obtain ⟨wA, hwA⟩ : ∃ wA, wA = wr.alloc (.cells #[.slice aL nL cL, .slice aF nF cF, .slice aA nA cA, .slice aO nO cO, .bool em, .bool an] 48) := ⟨_, rfl⟩
      have HWA : Hid (Below w.heap.size w wA) := hid0 (Below.later HW.out (by rw [hwA]; exact (Below.refl _ _).alloc (Nat.le_refl _) _))
      have hrA : wA.heap[wr.heap.size]? = some (.cells #[.slice aL nL cL, .slice aF nF cF, .slice aA nA cA, .slice aO nO cO, .bool em, .bool an] 48 (0, 0)) := by rw [hwA]; exact heap_alloc_new wr _
      have dA : wA.cell? ⟨wr.heap.size, 0, none⟩ = some (.slice aL nL cL) := by rw [cell_of_row _ _ _ _ _ _ hrA]; rfl
      have hadd : (pk : Int) + (nL : Int) = (pk1 : Int) := by omega
      have hwrp : IntKind.i64.wrap (pk1 : Int) = (pk1 : Int) := by rw [IntKind.wrap_i64]; omega
      have hkI : (k : Int) < (ps.length : Int) := by omega
      have hkI0 : (0 : Int) ≤ (k : Int) := by omega
      have hfold := hwA.symm
      clear hwA hrA hpk
      go_wp2
      go_roundw
      case rel => exact ⟨k + 1, by omega, by rw [← HPk.out.2], by go_num, HWA⟩
      case measure => simp [intOf]; omega
    · obtain rfl : k = ps.length := by omega
      rw [← HTe.out.1]
      go_wp2
      go_cut [9] from 30 (fun p wx => ∃ J GZ GP GC : Nat, p = .pointer (some ⟨J, 0, none⟩) ∧ Hid (w.heap.size ≤ J ∧ JoY wx J sy w.heap.size (.slice none 0 0) (.slice none 0 0) (.slice (some ⟨GZ, 0, none⟩) N N) (.slice (some ⟨GP, 0, none⟩) N N) (.slice (some ⟨GC, 0, none⟩) N N) N jNil ∧ Below w.heap.size w wx))
      case first =>
        have hws : w.heap.size ≤ wr.heap.size := HW.out.size
        go_region
        all_goals
          go_wp2_with fail
          go_meet
          case rel =>
            refine ⟨_, _, _, _, rfl, hid0 ⟨by omega, JoY.empty (w := w) (alloc5 wr _ _ _ _ _).2.2.2.2 ?_ ?_ ?_ ?_ hT hNb ?_ ?_ ?_ ?_ ?_ ?_ ?_, Below.later HW.out (((((((Below.refl _ wr).alloc (Nat.le_refl _) _).alloc (by simp) _).alloc (by simp; omega) _).alloc (by simp; omega) _).alloc (by simp; omega) _).drew)⟩⟩
            all_goals first | omega | exact (alloc5 wr _ _ _ _ _).1 | exact (alloc5 wr _ _ _ _ _).2.1 | exact (alloc5 wr _ _ _ _ _).2.2.1 | exact (alloc5 wr _ _ _ _ _).2.2.2.1
      case rest =>
        obtain ⟨J, GZ, GP, GC, rfl, HC⟩ := hcut
        clear hmk1 hmk2 HW hdiv hdiv2 hpos hpos2
        obtain ⟨w1, hw1⟩ : ∃ w1, w1 = wc.alloc (.cells (madeCells #[.slice none 0 0] T) 34) := ⟨_, rfl⟩
        have HJ0 : Hid (JfI w J sy N GZ GP GC (jAcc ps 0) (.slice (some ⟨wc.heap.size, 0, none⟩) 0 T) w1) := hid0 (by
          have hb : Below wc.heap.size wc w1 := by rw [hw1]; exact (Below.refl _ _).alloc (Nat.le_refl _) _
          obtain ⟨vO, vF, vE, vS, vA, hj, h0⟩ := HC.out.2.1
          refine ⟨Below.later HC.out.2.2 hb, ⟨vO, vF, vE, vS, vA, hj.past hb, h0⟩, ⟨[], ?_, fun k hk => absurd hk (Nat.not_lt_zero _)⟩⟩
          rw [hw1]
          exact World.ownsRow_made wc _ T HC.out.2.2.size (by unfold maxLen; omega) (by rw [size_madeCells]; simp))
        have hfold := hw1.symm
        have HLJ := hid0 HC.out.1
        clear hw1 HC
        go_wp2
        go_loopw [10, 45] (fun t i wr => ∃ k : Nat, k ≤ ps.length ∧ i = .int .i64 (k : Int) ∧ Hid (JfI w J sy N GZ GP GC (jAcc ps k) t wr)) (fun _ i _ => ps.length - (intOf i).toNat)
        case atStart => exact ⟨0, Nat.zero_le _, rfl, HJ0⟩
        case round =>
          clear hmk3 hfold HJ0
          obtain ⟨k, hk, rfl, HK⟩ := hrel
          by_cases hkl : k < ps.length
          · obtain ⟨b, off, eb, hbw, aL, aF, aA, aO, cL, cF, cA, cO, y0, y1, y2, y3, y4, y5, hrw, hnl, hpa⟩ := HPs.out.at' k hkl
            subst eb
            obtain ⟨V, hV⟩ : ∃ V, V = wr := ⟨_, rfl⟩
            subst hV
            have tr : ∀ i, V.cell? ⟨b, i, none⟩ = w.cell? ⟨b, i, none⟩ := fun i => HK.out.bel.cell (p := ⟨b, i, none⟩) hbw
            have z0 := (tr _).trans y0
            have z1 := (tr _).trans y1
            have z2 := (tr _).trans y2
            have z3 := (tr _).trans y3
            have z4 := (tr _).trans y4
            have z5 := (tr _).trans y5
            obtain ⟨p, hp⟩ : ∃ p, p = ps[k] := ⟨_, rfl⟩
            have hpm : p ∈ ps := by rw [hp]; exact List.getElem_mem hkl
            obtain ⟨j, hj⟩ : ∃ j, j = jAcc ps k := ⟨_, rfl⟩
            have HJs : Hid (jAcc ps (k + 1) = jStep j k p) := hid0 (by rw [jAcc_succ hkl, ← hp, ← hj])
            rw [← hp] at z0 z1 z2 z3 z4 z5 hrw hpa
            have hK1 := HK.out
            rw [← hj] at hK1
            obtain ⟨wA, hwA⟩ : ∃ wA, wA = V.alloc (.cells #[.slice aL p.le.length cL, .slice aF p.fi.length cF, .slice aA p.la.length cA, .slice aO p.fo.length cO, .bool p.em, .bool p.an] 48) := ⟨_, rfl⟩
            have hbA : Below V.heap.size V wA := by rw [hwA]; exact (Below.refl _ _).alloc (Nat.le_refl _) _
            have hrA : wA.heap[V.heap.size]? = some (.cells #[.slice aL p.le.length cL, .slice aF p.fi.length cF, .slice aA p.la.length cA, .slice aO p.fo.length cO, .bool p.em, .bool p.an] 48 (0, 0)) := by rw [hwA]; exact heap_alloc_new V _
            have dA : ∀ W : World, KeT wA W → W.cell? ⟨V.heap.size, 0, none⟩ = some (.slice aL p.le.length cL) := fun W hW => by
              have hq : W.heap[V.heap.size]? = _ := (hW.kp _ _ _ _ hrA (by decide) (by decide) (by decide) (by decide)).trans hrA
              rw [cell_of_row _ _ _ _ _ _ hq]; rfl
            have HDA := hid0 dA
            have e0 : wA.cell? ⟨V.heap.size, 0, none⟩ = some (.slice aL p.le.length cL) := by rw [cell_of_row _ _ _ _ _ _ hrA]; rfl
            have e1 : wA.cell? ⟨V.heap.size, 1, none⟩ = some (.slice aF p.fi.length cF) := by rw [cell_of_row _ _ _ _ _ _ hrA]; rfl
            have e2 : wA.cell? ⟨V.heap.size, 2, none⟩ = some (.slice aA p.la.length cA) := by rw [cell_of_row _ _ _ _ _ _ hrA]; rfl
            have e3 : wA.cell? ⟨V.heap.size, 3, none⟩ = some (.slice aO p.fo.length cO) := by rw [cell_of_row _ _ _ _ _ _ hrA]; rfl
            have e4 : wA.cell? ⟨V.heap.size, 4, none⟩ = some (.bool p.em) := by rw [cell_of_row _ _ _ _ _ _ hrA]; rfl
            have e5 : wA.cell? ⟨V.heap.size, 5, none⟩ = some (.bool p.an) := by rw [cell_of_row _ _ _ _ _ _ hrA]; rfl
            have hown := jAcc_own HOk.out k hk
            rw [← hj] at hown
            have hokj := jAcc_ok (N := N) HOk.out (by rw [← HTe.out.1]; have := HTe.out.2; omega) k hk
            rw [← hj] at hokj
            have HAd : Hid (Calls Tryd.prog 51 #[.pointer (some ⟨J, 0, none⟩), .int .i64 (k : Int), .agg #[.slice aL p.le.length cL, .slice aF p.fi.length cF, .slice aA p.la.length cA, .slice aO p.fo.length cO, .bool p.em, .bool p.an]] wA fun e w' => (∃ v, e = .returned v) ∧ Hid (Below w.heap.size wA w' ∧ KeT wA w' ∧ JoY w' J sy w.heap.size (.slice none 0 0) (.slice none 0 0) (.slice (some ⟨GZ, 0, none⟩) N N) (.slice (some ⟨GP, 0, none⟩) N N) (.slice (some ⟨GC, 0, none⟩) N N) N (jStep j k p))) := hid0 (by
              obtain ⟨vO, vF, vE, vS, vA, g1, g2⟩ := hK1.jo
              have q1 := jAcc_fo ps k hk
              have q2 := foN_le ps (k + 1)
              have q3 := foN_succ hkl
              have q4 := HB.out.1
              have q5 := jAcc_nums ps k hk
              have q6 := plN_succ hkl
              have q7 := plN_le ps (k + 1)
              have q8 := HTe.out
              rw [← hj] at q1 q5
              rw [← hp] at q3 q6
              have q9 := hK1.bel.size
              exact addP_any J sy w.heap.size k N GZ GP GC N N N cL cF cA cO p.le.length aL aF aA aO (.slice none 0 0) (.slice none 0 0) j p w wA ⟨vO, vF, vE, vS, vA, g1.past hbA, g2⟩ HLJ.out (Nat.le_trans q9 hbA.size) hpa (Nat.le_refl _) (Below.later hK1.bel hbA) hNb hokj (HOk.out p hpm) (by omega) (by omega) (by omega) (by omega) (HB.out.2.2 p hpm).1 (HB.out.2.2 p hpm).2 (by omega))
            have HLr : Hid (∀ W : World, KeT wA W → LrO w W w.heap.size _ j.LE) := hid0 (fun W hW => (hK1.lt.keT (KeT.below hbA)).keT hW)
            have HBl : Hid (∀ W : World, Below w.heap.size wA W → Below w.heap.size w W) := hid0 (fun W hW => (Below.later hK1.bel hbA).trans hW)
            have HRw := hid0 hrw
            have HNl := hid0 hnl
            have HLl : Hid (j.LE.length + p.le.length ≤ 1000000000) := hid0 (by
              have q1 := hokj.le
              have q6 := plN_succ hkl
              have q7 := plN_le ps (k + 1)
              have q8 := HTe.out
              rw [← hp] at q6
              omega)
            have hkI : (k : Int) < (ps.length : Int) := by omega
            have hkI0 : (0 : Int) ≤ (k : Int) := by omega
            have hfold := hwA.symm
            have hnm := (HK.out)
            clear hwA hbA hrA dA hK1 HK hokj hown hrw hnl hpa hj hp hpm tr y0 y1 y2 y3 y4 y5 hnm
            go_wp2_with (first
              | (go_at_call 51; go_loud ((refine HAd.out.mono ?_; rintro e w2 ⟨⟨v2, rfl⟩, HA2⟩; have dB := HDA.out w2 HA2.out.2.1)))
              | (at_builtin; go_loud ((refine wpList_spreadW rfl _ _ rfl _ j.LE p.le aL p.le.length cL w.heap.size rfl rfl rfl HNl.out (HLr.out w2 HA2.out.2.1) HRw.out (HBl.out w2 HA2.out.1) HLl.out (HBl.out w2 HA2.out.1).size ?_; intro v3 w3 g1 g2; have HG1 := hid0 g1; have HG2 := hid0 g2; clear g1 g2))))
            have HN : Hid (JfI w J sy N GZ GP GC (jAcc ps (k + 1)) v3 w3) := hid0 (by
              obtain ⟨VS, hv⟩ := (HLr.out w2 HA2.out.2.1).typ
              rw [HJs.out]
              obtain ⟨vO, vF, vE, vS, vA, g1, g2⟩ := HA2.out.2.2
              exact ⟨(HBl.out w2 HA2.out.1).grown HG2.out (HBl.out w2 HA2.out.1).size (fun q hq => (World.ownsRow.lt hv q hq).1), ⟨vO, vF, vE, vS, vA, g1.other hv (by decide) (Only.ofGrown HG2.out), g2⟩, HG1.out⟩)
            go_roundw
            case rel => exact ⟨k + 1, by omega, by go_num, HN⟩
            case measure => simp [intOf]; omega
          · obtain rfl : k = ps.length := by omega
            obtain ⟨j, hj⟩ : ∃ j, j = jAcc ps ps.length := ⟨_, rfl⟩
            have hK1 := HK.out
            rw [← hj] at hK1
            obtain ⟨VS, hvs⟩ := hK1.lt.typ
            obtain ⟨aT, cT, eT⟩ := own_sl hvs
            subst eT
            have hokj := jAcc_ok (N := N) HOk.out (by rw [← HTe.out.1]; have := HTe.out.2; omega) ps.length (Nat.le_refl _)
            have hown := jAcc_own HOk.out ps.length (Nat.le_refl _)
            have hles := jAcc_le ps ps.length (Nat.le_refl _)
            rw [← hj] at hokj hown hles
            have hLl : j.LE.length = T := by rw [hokj.le, hown, ← HTe.out.1]
            have HAl : Hid (Calls Tryd.prog 52 #[.pointer (some ⟨J, 0, none⟩), .slice aT j.LE.length cT] wr fun e w' => (∃ v, e = .returned v) ∧ Hid (JoF w' J sy w.heap.size N jf ∧ Below w.heap.size w w')) := hid0 (by
              obtain ⟨vO, vF, vE, vS, vA, g1, g2⟩ := hK1.jo
              obtain ⟨q1, _, q2⟩ := hK1.lt.lta g1.b.r hK1.bel HLJ.out
              refine (addLetters_any J sy cT aT j.LE vO vF vE _ _ _ vS vA wr g1.b q1 q2 hsy hokj.le' (by omega) (by rw [hles]; exact HB.out.2.1)).mono (fun e w' ⟨r1, r2⟩ => ⟨r1, hid0 ⟨⟨HLJ.out, ?_⟩, r2.only.afterBelow hK1.bel hK1.bel.size (fun i hi => by rw [hi]; exact HLJ.out)⟩⟩)
              obtain ⟨vL, vM, t1, t2, t3, t4⟩ := r2.jo
              have g3 := g1.letters t1 r2.only
              have eN : (j.LE.length + 63) / 64 = N := by rw [hLl, HTe.out.2]
              rw [eN] at t2 t3 t4
              rw [HJf.out, ← hj]
              exact ⟨vO, vF, vE, vL, vM, GZ, GP, GC, N, N, N, vS, vA, g3, rww_of g3.f g2 g3.e, rwl_of t2 t4 t3⟩)
            clear hK1 HK hvs hokj hown hles hLl hj
            go_wp2_with (go_at_call 52; go_loud ((refine HAl.out.mono ?_; rintro e w2 ⟨⟨v2, rfl⟩, HA2⟩)))
            go_ret
            exact ⟨J, rfl, HA2.out.1, HA2.out.2⟩
end Go.Proofs.YtbbejfkgopcjoaaDoor
