/-
  ThFM, TqDW, ThGW, TqOP, TshP.
-/
import Derived.Test.YtcbepmjojppokaaGreatDoorThCM
import Derived.Test.YtcbepmjojppokaaGreatDoorTqOW
import Derived.Test.YtcbepmjojppokaaGreatDoorTqZW
import Derived.LaidHandle
import Derived.Test.YtcbepmjojppokaaGreatDoorSentP
import Derived.Deep.Matrix
import Derived.Lib.LaidU8
import Derived.Shelf.Vars
import Derived.Lay
import Derived.LaidMore
import Derived.ChangeSlices
import Derived.Deep.Slices
namespace Go.Proofs.YtcbepmjojppokaaGreatDoor.Tp
open Go.RowKit Go.Shelf
/-- The bytes of points and of the marks behind them. -/
def cost : List Int → Nat
  | [] => 0
  | x :: r => hxk x.toNat + 4 + cost r
theorem cost_tl (P B : List Int) : ∀ (r i : Nat), i + r = P.length → (tlF P B i r).length = cost (P.drop i) + 2
  | 0, i, h => by rw [tlF, mkF_len, List.drop_of_length_le (by omega)]; rfl
  | r + 1, i, h => by
    have hil : i < P.length := by omega
    have hg : P.getD i 0 = P[i] := by rw [List.getD_eq_getElem?_getD, List.getElem?_eq_getElem hil]; rfl
    have ih := cost_tl P B r (i + 1) (by omega)
    rw [tlF, hg, List.drop_eq_getElem_cons hil, cost]
    simp only [List.length_append, mkF_len, hx_len, List.length_singleton, ih]
    omega
theorem line_len (P B : List Int) : (shF P B P.length).length = cost P + 2 := by
  rw [sh_tl, cost_tl P B P.length 0 (by omega), List.drop_zero]
theorem next_drop (s : By) (h : restW s ≠ []) : (restW s).length + (nextW s).length + 1 ≤ s.length := by
  have h0 : nextW s ++ s.drop (nextW s).length = s := by
    have h1 : s.takeWhile notBl ++ s.dropWhile notBl = s := List.takeWhile_append_dropWhile
    have h2 : s.drop (nextW s).length = s.dropWhile notBl := by
      have h3 : (s.takeWhile notBl ++ s.dropWhile notBl).drop (nextW s).length = s.dropWhile notBl := List.drop_left
      rwa [h1] at h3
    rw [h2]
    exact h1
  have hl := congrArg List.length h0
  rw [List.length_append] at hl
  have h2 : s.drop (nextW s).length = s.dropWhile notBl := by
    have h1 : s.takeWhile notBl ++ s.dropWhile notBl = s := List.takeWhile_append_dropWhile
    have h3 : (s.takeWhile notBl ++ s.dropWhile notBl).drop (nextW s).length = s.dropWhile notBl := List.drop_left
    rwa [h1] at h3
  have hr : restW s = (s.drop (nextW s).length).dropWhile isBl := rfl
  cases hd : s.drop (nextW s).length with
  | nil => rw [hr, hd] at h; exact absurd rfl h
  | cons c r =>
    have hc : notBl c = false := by
      have h4 : s.dropWhile notBl = c :: r := by rw [← h2, hd]
      have h5 := List.head?_dropWhile_not notBl s
      rw [h4] at h5
      simpa using h5
    have hb : isBl c = true := by
      unfold notBl at hc
      cases hx : isBl c with
      | true => rfl
      | false => rw [hx] at hc; cases hc
    have h6 : (restW s).length ≤ r.length := by
      rw [hr, hd, List.dropWhile_cons, hb, if_pos rfl]
      exact (List.dropWhile_sublist isBl).length_le
    rw [hd, List.length_cons] at hl
    omega
theorem hxk_le (w : By) (h : wOk w = true) : hxk (hexN w) ≤ w.length := by
  unfold wOk at h
  simp only [Bool.and_eq_true, decide_eq_true_eq] at h
  obtain ⟨⟨h4, h6⟩, ha⟩ := h
  have hb := hexN_lt w (fun c hc => List.all_eq_true.1 ha c hc)
  unfold hxk
  split
  · exact h4
  · split
    · rcases Nat.lt_or_ge w.length 5 with h5 | h5
      · have e : w.length = 4 := by omega
        rw [e] at hb
        have : (16 : Nat) ^ 4 = 65536 := rfl
        omega
      · exact h5
    · rcases Nat.lt_or_ge w.length 6 with h5 | h5
      · have : w.length = 4 ∨ w.length = 5 := by omega
        rcases this with e | e
        · rw [e] at hb
          have : (16 : Nat) ^ 4 = 65536 := rfl
          omega
        · rw [e] at hb
          have : (16 : Nat) ^ 5 = 1048576 := rfl
          omega
      · exact h5
theorem rise_up {c c' : Int} (h : c ≤ c') : ∀ (B : List Int) (lo : Int), riseF c lo B = true → riseF c' lo B = true
  | [], _, _ => rfl
  | y :: B, lo, hr => by
    simp only [riseF, Bool.and_eq_true, decide_eq_true_eq] at hr ⊢
    exact ⟨⟨hr.1.1, by omega⟩, rise_up h B _ hr.2⟩
theorem rise_snoc (c : Int) : ∀ (B : List Int) (lo : Int), lo ≤ c → riseF c lo B = true → riseF (c + 1) lo (B ++ [c]) = true
  | [], lo, h, _ => by
    show riseF (c + 1) lo [c] = true
    simp only [riseF, Bool.and_eq_true, decide_eq_true_eq]
    exact ⟨⟨h, by omega⟩, trivial⟩
  | y :: B, lo, h, hr => by
    rw [List.cons_append]
    simp only [riseF, Bool.and_eq_true, decide_eq_true_eq] at hr ⊢
    exact ⟨⟨hr.1.1, by omega⟩, rise_snoc c B (y + 1) (by omega) hr.2⟩
theorem rise_cnt (c : Int) : ∀ (B : List Int) (lo : Int), lo ≤ c → riseF c lo B = true → (B.length : Int) ≤ c - lo
  | [], lo, h, _ => by simp; omega
  | y :: B, lo, h, hr => by
    simp only [riseF, Bool.and_eq_true, decide_eq_true_eq] at hr
    have := rise_cnt c B (y + 1) (by omega) hr.2
    rw [List.length_cons]
    omega
/-- What a line says costs no more than the line. -/
theorem rd_cost : ∀ (n : Nat) (s : By) (P B P' B' : List Int),
    (rdS n true s P B = some (P', B') → riseF (P.length : Int) 0 B = true → ∃ R, P' = P ++ R ∧ cost R + 2 ≤ s.length ∧ riseF ((P'.length : Int) + 1) 0 B' = true) ∧
    (rdS n false s P B = some (P', B') → riseF ((P.length : Int) + 1) 0 B = true → ∃ R, P' = P ++ R ∧ cost R ≤ s.length + 1 ∧ riseF ((P'.length : Int) + 1) 0 B' = true)
  | 0, s, P, B, P', B' => ⟨(fun h => by have h2 : none = some (P', B') := h; cases h2), (fun h => by have h2 : none = some (P', B') := h; cases h2)⟩
  | n + 1, s, P, B, P', B' => by
    refine ⟨fun h hr => ?_, fun h hr => ?_⟩
    · rw [rdS] at h
      have hB : riseF ((P.length : Int) + 1) 0 (if nextW s = yesW then B ++ [(P.length : Int)] else B) = true := by
        split
        · exact rise_snoc _ B 0 (by omega) hr
        · exact rise_up (by omega) B 0 hr
      split at h
      · rename_i hm
        have h2 : (nextW s).length = 2 := by rcases hm with e | e <;> rw [e] <;> rfl
        split at h
        · injection h with h
          injection h with e1 e2
          subst e1
          subst e2
          have := next_le s
          exact ⟨[], by simp, by rw [cost]; omega, hB⟩
        · rename_i hne
          obtain ⟨R, h3, h4, h5⟩ := (rd_cost n (restW s) P _ P' B').2 h hB
          have := next_drop s hne
          exact ⟨R, h3, by omega, h5⟩
      · cases h
    · rw [rdS] at h
      split at h
      · rename_i hw
        have h1 := hxk_le _ hw
        have hB : riseF (((P ++ [(hexN (nextW s) : Int)]).length : Nat) : Int) 0 B = true := by
          rw [List.length_append, List.length_singleton]
          exact hr
        obtain ⟨R, h3, h4, h5⟩ := (rd_cost n (restW s) _ B P' B').1 h hB
        have hne : restW s ≠ [] := fun e => by rw [e] at h4; simp at h4
        have := next_drop s hne
        refine ⟨(hexN (nextW s) : Int) :: R, by rw [h3, List.append_assoc]; rfl, ?_, h5⟩
        rw [cost, Int.toNat_natCast]
        omega
      · cases h
/-- The bytes of all lines, an end behind each. -/
def bytesC (C : List Cs) : Nat := (C.map fun x => (shF x.1 x.2 x.1.length).length + 1).sum
theorem bytes_snoc (C : List Cs) (x : Cs) : bytesC (C ++ [x]) = bytesC C + ((shF x.1 x.2 x.1.length).length + 1) := by
  unfold bytesC
  rw [List.map_append, List.sum_append]
  simp
theorem jn_bytes (C : List Cs) : ∀ i, i ≤ C.length → (jn C i).length + (if i = 0 then 0 else 1) = bytesC (C.take i)
  | 0, _ => rfl
  | i + 1, h => by
    have ih := jn_bytes C i (by omega)
    have hi : i < C.length := by omega
    rw [List.take_succ_eq_append_getElem hi, bytes_snoc, ← ih, jn, cP_at hi, cB_at hi]
    simp only [List.length_append]
    by_cases h0 : i = 0
    · subst h0
      simp [sep]
      omega
    · have : (sep i).length = 1 := by unfold sep; rw [if_neg h0]; rfl
      rw [this, if_neg h0, if_neg (by omega)]
      omega
theorem bare_le (l : By) : (bareOf l).length ≤ l.length := by
  unfold bareOf trimB
  rw [List.length_reverse]
  have h1 := (List.dropWhile_sublist isBl (l := ((l.takeWhile fun c => c != 35).dropWhile isBl).reverse)).length_le
  have h2 := (List.dropWhile_sublist isBl (l := l.takeWhile fun c => c != 35)).length_le
  have h3 := (List.takeWhile_sublist (fun c : UInt8 => c != 35) (l := l)).length_le
  rw [List.length_reverse] at h1
  omega
theorem chop_le (l : By) : (chopR l).length ≤ l.length := by unfold chopR; split <;> simp
/-- What is known of cases that were read. -/
structure RdC (C : List Cs) (n : Nat) : Prop where
  ok : okC C = true
  len : bytesC C ≤ n
theorem okC_snoc {C : List Cs} {x : Cs} (h : okC C = true) (hx : mayC x.1 x.2 = true) : okC (C ++ [x]) = true := by
  unfold okC at h ⊢
  rw [List.all_append, h]
  simp [hx]
theorem step_rd {k : Nat} {C C' : List Cs} {b : By} {n : Nat} (h : RdC C n) (hs : stepP k C b = .ok C') : RdC C' (n + b.length + 1) := by
  unfold stepP at hs
  split at hs
  · injection hs with hs
    subst hs
    exact ⟨h.ok, by have := h.len; omega⟩
  · cases hl : lnS b with
    | none => rw [hl] at hs; cases hs
    | some x =>
      obtain ⟨P, B⟩ := x
      rw [hl] at hs
      have hs2 : (if P.all scalarP = true then (if C.length = 20000 then PRes.bad (k + 1) 2 else .ok (C ++ [(P, B)])) else .bad (k + 1) 0) = .ok C' := hs
      split at hs2
      · rename_i hall
        split at hs2
        · cases hs2
        · injection hs2 with hs2
          subst hs2
          unfold lnS at hl
          obtain ⟨R, h1, h2, h3⟩ := (rd_cost _ b [] [] P B).1 hl rfl
          rw [List.nil_append] at h1
          subst h1
          refine ⟨okC_snoc h.ok (by unfold mayC; rw [hall, h3]; rfl), ?_⟩
          rw [bytes_snoc, line_len]
          have := h.len
          show bytesC C + (cost P + 2 + 1) ≤ _
          omega
      · cases hs2
theorem file_rd (s : By) : ∀ (now : By) (k n : Nat) (C C' : List Cs), (∀ c ∈ now, c ≠ 10) → RdC C n → parF k C ((rawGo now s).map bareN) = .ok C' → RdC C' (n + now.length + s.length + 1) := by
  induction s with
  | nil =>
    intro now k n C C' hn h hp
    rw [rawGo] at hp
    split at hp
    · have h2 : PRes.ok C = .ok C' := hp
      injection h2 with h2
      subst h2
      exact ⟨h.ok, by have := h.len; omega⟩
    · have h2 : (match stepP k C (bareN now) with | .ok C1 => parF (k + 1) C1 [] | .bad l i => .bad l i) = .ok C' := hp
      cases hs : stepP k C (bareN now) with
      | bad l i => rw [hs] at h2; cases h2
      | ok C1 =>
        rw [hs] at h2
        have h3 : PRes.ok C1 = .ok C' := h2
        injection h3 with h3
        subst h3
        have h4 := step_rd h hs
        rw [bareN_no now hn] at h4
        have := bare_le now
        exact ⟨h4.ok, by have := h4.len; simp; omega⟩
  | cons c r ih =>
    intro now k n C C' hn h hp
    rw [rawGo] at hp
    split at hp
    · have h2 : (match stepP k C (bareN (now ++ [10])) with | .ok C1 => parF (k + 1) C1 ((rawGo [] r).map bareN) | .bad l i => .bad l i) = .ok C' := hp
      cases hs : stepP k C (bareN (now ++ [10])) with
      | bad l i => rw [hs] at h2; cases h2
      | ok C1 =>
        rw [hs] at h2
        have h4 := step_rd h hs
        rw [bareN_end] at h4
        have h5 := bare_le (chopR now)
        have h6 := chop_le now
        have h7 := ih [] (k + 1) (n + now.length + 1) C1 C' (fun c hc => by cases hc) ⟨h4.ok, by have := h4.len; omega⟩ h2
        exact ⟨h7.ok, by have := h7.len; simp at this ⊢; omega⟩
    · rename_i hc
      have h7 := ih (now ++ [c]) k n C C' (fun x hx => by
        rcases List.mem_append.1 hx with hx | hx
        · exact hn x hx
        · rw [List.mem_singleton] at hx; rw [hx]; exact hc) h hp
      exact ⟨h7.ok, by have := h7.len; simp at this ⊢; omega⟩
/-- What is read is printed in no more bytes. -/
theorem read_short (s : By) (C : List Cs) (h : parF 0 [] ((rawL s).map bareN) = .ok C) : C.length ≤ 20000 ∧ okC C = true ∧ (jn C C.length).length ≤ s.length ∧ bytesC C ≤ s.length + 1 := by
  have h1 := parF_len _ _ _ _ h (Nat.zero_le _)
  have h2 := file_rd s [] 0 0 [] C (fun c hc => by cases hc) ⟨rfl, Nat.le_refl _⟩ h
  have h3 := jn_bytes C C.length (Nat.le_refl _)
  rw [List.take_length] at h3
  have h4 := h2.len
  simp at h4
  refine ⟨h1, h2.ok, ?_, h4⟩
  split at h3
  · rename_i h0
    rw [h0]
    exact Nat.zero_le _
  · omega
theorem bytes_at {C : List Cs} {x : Cs} (h : x ∈ C) : cost x.1 + 3 ≤ bytesC C := by
  induction C with
  | nil => cases h
  | cons y r ih =>
    have e : bytesC (y :: r) = ((shF y.1 y.2 y.1.length).length + 1) + bytesC r := by unfold bytesC; rw [List.map_cons, List.sum_cons]
    rw [e]
    rcases List.mem_cons.1 h with rfl | h
    · rw [line_len]; omega
    · have := ih h; omega
theorem cost_len : ∀ (P : List Int), 4 * P.length ≤ cost P
  | [] => Nat.le_refl _
  | x :: r => by
    have := cost_len r
    rw [cost, List.length_cons]
    omega
/-- The sizes of cases that were read. -/
theorem read_sizes (s : By) (C : List Cs) (hs : s.length ≤ 1048576) (h : parF 0 [] ((rawL s).map bareN) = .ok C) : ∀ x ∈ C, x.1.length ≤ 1048577 ∧ x.2.length ≤ 1048578 := by
  obtain ⟨_, h2, _, h4⟩ := read_short s C h
  intro x hx
  have h5 := bytes_at hx
  have h6 := cost_len x.1
  have h7 := List.all_eq_true.1 h2 x hx
  unfold mayC at h7
  rw [Bool.and_eq_true] at h7
  have h8 := rise_cnt _ x.2 0 (by omega) h7.2
  omega
theorem parF_pos (L : List By) : ∀ (k : Nat) (C : List Cx) (l i : Nat), parF k C L = .bad l i → 0 < l := by
  induction L with
  | nil => intro k C l i h; cases h
  | cons b r ih =>
    intro k C l i h
    have h2 : (match stepP k C b with | .ok C1 => parF (k + 1) C1 r | .bad l i => .bad l i) = .bad l i := h
    cases hs : stepP k C b with
    | ok C1 => rw [hs] at h2; exact ih _ _ _ _ h2
    | bad l' i' =>
      rw [hs] at h2
      have h3 : PRes.bad l' i' = .bad l i := h2
      injection h3 with h3 _
      subst h3
      unfold stepP at hs
      split at hs
      · cases hs
      · split at hs
        · injection hs with hs _; omega
        · split at hs
          · split at hs
            · injection hs with hs _; omega
            · cases hs
          · injection hs with hs _; omega
end Go.Proofs.YtcbepmjojppokaaGreatDoor.Tp
namespace Go.Proofs.YtcbepmjojppokaaGreatDoor.Tp
open Go.RowKit Go.Shelf
/-- What the world holds. -/
structure EnvT (w : World) (A : Nat → Addr) : Prop where
  s : Sen3 w A
  y : Syn w
  t : ErrTy w
  d : TabAt 20 Lib.deBruijn64tab w
theorem EnvT.below {w w' : World} {A : Nat → Addr} (h : EnvT w A) (hb : Below w.heap.size w w') : EnvT w' A :=
  ⟨h.s.below hb, Syn.below h.y hb, h.t.below hb, fun i hi => (hb.cell (p := ⟨20, i, none⟩) (World.block_lt_of_cell? w _ (h.d i hi))).trans (h.d i hi)⟩
theorem pc_csa {W : World} {lo : Nat} {v : Value} {VS : List Value} {C : List Cx} (h : PC W lo v VS C) : ∃ a c, v = .slice a C.length c ∧ CsA W a C := by
  obtain ⟨a, c, rfl⟩ := own_slC h.own
  refine ⟨a, c, rfl, ⟨fun k hk => ?_⟩⟩
  rcases h.own.2 with ⟨e1, e2⟩ | ⟨g, cap, cur, e1, hg, hr, hc, _⟩
  · rw [e2] at hk; omega
  · injection e1 with e1 _ _
    subst e1
    obtain ⟨vP, vB, q1, q2, q3, q4⟩ := h.at' k hk
    obtain ⟨aP, cP, rfl, hP⟩ := OwnI.ia q3
    obtain ⟨aB, cB, rfl, hB⟩ := OwnI.ia q4
    have hl : VS.length = C.length * 2 := h.own.1
    have c0 := World.ownsRow.cellAt h.own (k * 2) (by omega)
    have c1 := World.ownsRow.cellAt h.own (k * 2 + 1) (by omega)
    refine ⟨g, 0, aP, aB, cP, cB, rfl, (World.ownsRow.lt h.own g rfl).2, ?_, ?_, hP, hB⟩
    · rw [Nat.zero_add, c0, q1]
    · rw [Nat.zero_add, c1, q2]
/-- The line that known reads. -/
def kT : By := [195, 183, 32, 48, 48, 52, 49, 32, 195, 151, 32, 32, 48, 51, 48, 56, 32, 195, 183, 32, 35, 32, 120]
def kC : List Cs := [([65, 776], [0, 2])]
theorem kT_read : parF 0 [] ((rawL kT).map bareN) = .ok kC := by kernel_rfl
theorem kC_say : sayN kC = 0 := by kernel_rfl
theorem kC_txt : sayT kC = [195, 183, 32, 48, 48, 52, 49, 32, 195, 151, 32, 48, 51, 48, 56, 32, 195, 183] := by kernel_rfl
set_option maxRecDepth 10000 in
set_option maxHeartbeats 1600000 in
theorem known_any (A : Nat → Addr) (w : World) (hE : EnvT w A) : Calls Tryz.prog 13 #[] w fun e w' => e = .returned (.bool true) ∧ Hid (Below w.heap.size w w') := by
  have HP : Hid (Calls Tryz.prog 6 #[.string ⟨#[195, 183, 32, 48, 48, 52, 49, 32, 195, 151, 32, 32, 48, 51, 48, 56, 32, 195, 183, 32, 35, 32, 120]⟩] w fun e w' => ∃ (g : Nat) (c cB : Nat) (aB : Option Addr), e = .returned (.tuple #[.slice (some ⟨g, 0, none⟩) 1 c, .int .i64 0, .nilIface]) ∧ w'.cell? ⟨g, 1, none⟩ = some (.slice aB 2 cB) ∧ Hid (CsA w' (some ⟨g, 0, none⟩) kC ∧ Below w.heap.size w w')) := hid0 ((parse_any kT A w hE.s hE.y hE.t).mono (fun e w' h => by
    have h1 := h.out
    unfold GoP at h1
    rw [if_neg (by decide), kT_read] at h1
    obtain ⟨v, VS, rfl, h2, h3⟩ := h1
    obtain ⟨a, c, rfl, h4⟩ := pc_csa h2
    obtain ⟨b, off, aP, aB, cP, cB, rfl, _, _, k1, _, _⟩ := h4.at' 0 (by decide)
    have hoff : off = 0 := by
      rcases h2.own.2 with ⟨e1, _⟩ | ⟨g, cap, cur, e1, _⟩
      · cases e1
      · injection e1 with e1
        injection e1 with e1
        injection e1
    subst hoff
    refine ⟨b, c, cB, aB, rfl, ?_, hid0 ⟨h4, h3⟩⟩
    have k2 : w'.cell? ⟨b, 0 + 0 * 2 + 1, none⟩ = some (.slice aB 2 cB) := k1
    exact k2))
  have HPr : Hid (∀ (g c : Nat) (V : World), Below w.heap.size w V → CsA V (some ⟨g, 0, none⟩) kC → Calls Tryz.prog 14 #[.slice (some ⟨g, 0, none⟩) 1 c] V fun e w' => e = .returned (.tuple #[.string ⟨#[195, 183, 32, 48, 48, 52, 49, 32, 195, 151, 32, 48, 51, 48, 56, 32, 195, 183]⟩, .nilIface]) ∧ Hid (Below V.heap.size V w')) := hid0 (fun g c V hV hC => by
    have hE2 := hE.below hV
    refine (print_any kC (some ⟨g, 0, none⟩) c A V (by decide) (by decide) hC hE2.d hE2.s).mono ?_
    rintro e w' ⟨rfl, h⟩
    refine ⟨?_, h⟩
    rw [kC_say, kC_txt]
    rfl)
  clear hE
  go_enter Tryz.func13, Tryz.ntmps13
  go_wp2_with (first
    | (go_at_call 6; refine HP.out.mono ?_; rintro e x1 ⟨g, c, cB, aB, rfl, k1, h1⟩)
    | (go_at_call 14; refine (HPr.out g c x1 h1.out.2 h1.out.1).mono ?_; rintro e x2 ⟨rfl, h2⟩; have k2 : x2.cell? ⟨g, 1, none⟩ = some (.slice aB 2 cB) := (h2.out.cell (p := ⟨g, 1, none⟩) (World.block_lt_of_cell? x1 _ k1)).trans k1)
    | fail)
  go_ret
  exact ⟨rfl, hid0 (h1.out.2.trans (h2.out.mono h1.out.2.size))⟩
end Go.Proofs.YtcbepmjojppokaaGreatDoor.Tp
namespace Go.Proofs.YtcbepmjojppokaaGreatDoor.Tp
open Go.RowKit Go.Shelf
theorem say_none {C : List Cs} (h20 : C.length ≤ 20000) (hok : okC C = true) (hl : (jn C C.length).length ≤ 1048576) : sayN C = 0 ∧ sayT C = jn C C.length := say_fine (by omega) hok (by omega)
set_option maxRecDepth 10000 in
set_option maxHeartbeats 1600000 in
theorem testShort_any (s : By) (A : Nat → Addr) (w : World) (hE : EnvT w A) :
    Calls Tryz.prog 4 #[.string (rd s)] w fun e w' => e = .returned (.bool true) ∧ Hid (Below w.heap.size w w') := by
  have HK := hid0 (known_any A w hE)
  have hsz : ((rd s).size : Int) = (s.length : Int) := rfl
  have hpa := fun V (hV : Below w.heap.size w V) => parse_any s A V (hE.below hV).s (hE.below hV).y (hE.below hV).t
  by_cases hl : 1048576 < s.length
  · have hbI : ¬ ((rd s).size : Int) ≤ 1048576 := by omega
    have HPa : Hid (∀ V, Below w.heap.size w V → Calls Tryz.prog 6 #[.string (rd s)] V fun e w' => e = .returned (.tuple #[.slice none 0 0, .int .i64 0, .iface 189 (.pointer (some (A 2)))]) ∧ Hid (Below V.heap.size V w')) := hid0 (fun V hV => (hpa V hV).mono (fun e w' h => by
      have h1 := h.out
      unfold GoP at h1
      rw [if_pos hl] at h1
      exact ⟨h1.1, hid0 h1.2⟩))
    clear hE hpa hl hsz
    generalize rd s = RS at *
    go_enter Tryz.func4, Tryz.ntmps4
    go_wp2_with (first
      | (go_at_call 13; refine HK.out.mono ?_; rintro e x1 ⟨rfl, h1⟩)
      | (go_at_call 6; refine (HPa.out _ h1.out).mono ?_; rintro e x2 ⟨rfl, h2⟩)
      | fail)
    go_ret
    have hd : decide ((RS.size : Int) ≤ 1048576) = false := decide_eq_false (by omega)
    exact ⟨by simp only [hd]; rfl, hid0 (h1.out.trans (h2.out.mono h1.out.size))⟩
  · have hbI : ((rd s).size : Int) ≤ 1048576 := by omega
    cases hp : parF 0 [] ((rawL s).map bareN) with
    | bad k i =>
      have hk : 0 < k := parF_pos _ _ _ _ _ hp
      have hkI : (k : Int) > 0 := by omega
      have HPa : Hid (∀ V, Below w.heap.size w V → Calls Tryz.prog 6 #[.string (rd s)] V fun e w' => e = .returned (.tuple #[.slice none 0 0, .int .i64 (k : Int), .iface 189 (.pointer (some (A i)))]) ∧ Hid (Below V.heap.size V w')) := hid0 (fun V hV => (hpa V hV).mono (fun e w' h => by
        have h1 := h.out
        unfold GoP at h1
        rw [if_neg hl, hp] at h1
        exact ⟨h1.1, hid0 h1.2⟩))
      clear hE hpa hl hsz hp
      generalize rd s = RS at *
      go_enter Tryz.func4, Tryz.ntmps4
      go_wp2_with (first
        | (go_at_call 13; refine HK.out.mono ?_; rintro e x1 ⟨rfl, h1⟩)
        | (go_at_call 6; refine (HPa.out _ h1.out).mono ?_; rintro e x2 ⟨rfl, h2⟩)
        | fail)
      go_ret
      exact ⟨rfl, hid0 (h1.out.trans (h2.out.mono h1.out.size))⟩
    | ok C =>
      obtain ⟨h20, hok, hjl, _⟩ := read_short s C hp
      have hSz := read_sizes s C (by omega) hp
      obtain ⟨hn, ht⟩ := say_none h20 hok (by omega)
      have hback := read_back C h20 hok
      have HPa : Hid (∀ V, Below w.heap.size w V → Calls Tryz.prog 6 #[.string (rd s)] V fun e w' => ∃ (b : Option Addr) (c : Nat), e = .returned (.tuple #[.slice b C.length c, .int .i64 0, .nilIface]) ∧ Hid (CsA w' b C ∧ Below V.heap.size V w')) := hid0 (fun V hV => (hpa V hV).mono (fun e w' h => by
        have h1 := h.out
        unfold GoP at h1
        rw [if_neg hl, hp] at h1
        obtain ⟨v, VS, rfl, h2, h3⟩ := h1
        obtain ⟨b, c, rfl, h4⟩ := pc_csa h2
        exact ⟨b, c, rfl, hid0 ⟨h4, h3⟩⟩))
      have HPr : Hid (∀ V (b : Option Addr) (c : Nat), Below w.heap.size w V → CsA V b C → Calls Tryz.prog 14 #[.slice b C.length c] V fun e w' => e = .returned (.tuple #[.string (rd (jn C C.length)), .nilIface]) ∧ Hid (Below V.heap.size V w')) := hid0 (fun V b c hV hb => (print_any C b c A V (by omega) (fun x hx => by have := hSz x hx; omega) hb (hE.below hV).d (hE.below hV).s).mono (fun e w' h => by
        rw [hn, ht] at h
        exact h))
      have HPb : Hid (∀ V, Below w.heap.size w V → Calls Tryz.prog 6 #[.string (rd (jn C C.length))] V fun e w' => ∃ (b : Option Addr) (c : Nat), e = .returned (.tuple #[.slice b C.length c, .int .i64 0, .nilIface]) ∧ Hid (CsA w' b C ∧ Below V.heap.size V w')) := hid0 (fun V hV => (parse_any (jn C C.length) A V (hE.below hV).s (hE.below hV).y (hE.below hV).t).mono (fun e w' h => by
        have h1 := h.out
        unfold GoP at h1
        rw [if_neg (by omega), hback] at h1
        obtain ⟨v, VS, rfl, h2, h3⟩ := h1
        obtain ⟨b, c, rfl, h4⟩ := pc_csa h2
        exact ⟨b, c, rfl, hid0 ⟨h4, h3⟩⟩))
      have HSm : Hid (∀ (a b : Option Addr) (ca cb : Nat) V, CsA V a C → CsA V b C → Calls Tryz.prog 8 #[.slice a C.length ca, .slice b C.length cb] V fun e w' => e = .returned (.bool true) ∧ Hid (Below V.heap.size V w')) := hid0 (fun a b ca cb V ha hb => sameCases_any C a b ca cb V (by omega) (fun x hx => by have := hSz x hx; omega) ha hb)
      have hjI : ((rd (jn C C.length)).size : Int) ≤ ((rd s).size : Int) := by
        have e1 : ((rd (jn C C.length)).size : Int) = ((jn C C.length).length : Int) := rfl
        omega
      clear hE hpa hl hsz hp h20 hok hjl hSz hn ht hback hbI
      generalize rd (jn C C.length) = RJ at *
      generalize rd s = RS at *
      generalize C.length = n at *
      go_enter Tryz.func4, Tryz.ntmps4
      go_wp2_with (first
        | (go_at_call 13; refine HK.out.mono ?_; rintro e x1 ⟨rfl, h1⟩)
        | (go_at_call 6; refine (HPa.out _ h1.out).mono ?_; rintro e x2 ⟨b, c, rfl, h2⟩; have HB2 := hid0 (h1.out.trans (h2.out.2.mono h1.out.size)); clear HPa)
        | (go_at_call 14; refine (HPr.out _ _ _ HB2.out h2.out.1).mono ?_; rintro e x3 ⟨rfl, h3⟩; have HB3 := hid0 (HB2.out.trans (h3.out.mono HB2.out.size)))
        | (go_at_call 6; refine (HPb.out _ HB3.out).mono ?_; rintro e x4 ⟨b2, c2, rfl, h4⟩; have HB4 := hid0 (HB3.out.trans (h4.out.2.mono HB3.out.size)))
        | (go_at_call 8; refine (HSm.out _ _ _ _ _ h4.out.1 ((h2.out.1.past h3.out).past h4.out.2)).mono ?_; rintro e x5 ⟨rfl, h5⟩)
        | fail)
      go_ret
      exact ⟨rfl, hid0 (HB4.out.trans (h5.out.mono HB4.out.size))⟩
end Go.Proofs.YtcbepmjojppokaaGreatDoor.Tp
namespace Go.Proofs.YtcbepmjojppokaaGreatDoor.Tp
open Go.ChangeShapes Go.WideShapes Go.ChangeAt Go.RowKit Go.Joins
theorem cellsInt : Tryz.prog.cellsOf 3 = 1 := by kernel_rfl
theorem cellsInts : Tryz.prog.cellsOf 48 = 1 := by kernel_rfl
theorem cellsCase : Tryz.prog.cellsOf 50 = 2 := by kernel_rfl
theorem bulk_one {H : Type} (d : DataW H) : 1 ≤ Rows.uptoBulk d := by
  cases d with
  | lit l => cases l <;> simp [Rows.uptoBulk]
  | nil => simp [Rows.uptoBulk]
  | ptr d => simp [Rows.uptoBulk]
  | slice elems spare => simp [Rows.uptoBulk]
  | agg parts => simp [Rows.uptoBulk]
  | iface t d => simp [Rows.uptoBulk]
  | map entries => simp [Rows.uptoBulk]
  | held h => simp [Rows.uptoBulk]
theorem bulk_all {H : Type} (l : List (DataW H)) : Rows.uptoBulkAll l = (l.map Rows.uptoBulk).sum := by
  induction l with
  | nil => simp [Rows.uptoBulkAll]
  | cons x r ih => rw [Rows.uptoBulkAll, ih, List.map_cons, List.sum_cons]
theorem bulk_lits {H : Type} (zs : List Int) : zs.length ≤ Rows.uptoBulkAll (H := H) (lits .i64 zs) := by
  induction zs with
  | nil => simp [lits]
  | cons z zs ih =>
    have e : (lits (H := H) .i64 (z :: zs)) = .lit (.int .i64 z) :: lits .i64 zs := rfl
    rw [e, Rows.uptoBulkAll, List.length_cons]
    have h1 : 1 ≤ Rows.uptoBulk (H := H) (.lit (.int .i64 z)) := bulk_one _
    omega
theorem lt_of_cell {W : World} {b o : Nat} {u : Value} (h : W.cell? ⟨b, o, none⟩ = some u) : b < W.heap.size := World.block_lt_of_cell? W _ h
theorem no_spot {W : World} {a : Addr} {u : Value} (h : W.cell? (a.add 0) = some u) : a.spot = none := by
  obtain ⟨b, off, spot⟩ := a
  cases spot with
  | none => rfl
  | some sp =>
    exfalso
    rw [show (⟨b, off, some sp⟩ : Addr).add 0 = ⟨b, off, some sp⟩ from rfl] at h
    unfold World.cell? at h
    split at h <;> simp at h
/-- Numbers that are read. -/
theorem open_points {H : Type} {enc : TypeId × Value → H} {W : World} {n : Nat} {c : Value} {x : DataW H × List MemPlace} (hf : DataW.trod enc Tryz.prog W 0 (fun _ => true) true n 48 [c] = some x) :
    ∃ (a : Option Addr) (ps : List Int) (cap : Nat), c = .slice a ps.length cap ∧ IA W a ps ∧ ps.length ≤ Rows.uptoBulk x.1 ∧ (a = none → cap = 0) := by
  rcases open_ints Tryz.underlying48 Tryz.underlying3 cellsInt hf with ⟨h1, h2⟩ | ⟨a, len, cap, zs, h1, h2, h3, h4, h5, h6, h7, h8⟩
  · simp only [List.cons.injEq, and_true] at h1
    exact ⟨none, [], 0, h1, ⟨fun k h => absurd h (Nat.not_lt_zero _)⟩, by simp, fun _ => rfl⟩
  · simp only [List.cons.injEq, and_true] at h1
    simp only [if_true] at h5
    have hl : (zs.take len).length = len := by rw [List.length_take]; omega
    have hb := bulk_lits (H := H) (zs.take len)
    refine ⟨some a, zs.take len, cap, by rw [hl]; exact h1, ⟨fun k hk' => ?_⟩, ?_, fun e => by cases e⟩
    · rw [hl] at hk'
      have h9 := h7 k (by omega)
      have hs := no_spot (h7 0 (by omega))
      obtain ⟨b, off, spot⟩ := a
      simp only at hs
      subst hs
      rw [Addr.add_lit] at h9
      refine ⟨b, off, rfl, lt_of_cell h9, ?_⟩
      rw [h9]
      congr 2
      rw [List.getElem_take, List.getD_eq_getElem?_getD, List.getElem?_eq_getElem (by omega)]
      rfl
    · rw [h6]
      simp only [Rows.uptoBulk]
      omega
theorem range_getD : ∀ (l : List Nat), (List.range l.length).map (fun i => l.getD i 0) = l := fun l => by
  refine List.ext_getElem (by simp) (fun i h1 h2 => ?_)
  rw [List.getElem_map, List.getElem_range, List.getD_eq_getElem?_getD, List.getElem?_eq_getElem h2]
  rfl
/-- A slice that is read: the cells of each of its elements; their bulks together. -/
theorem open_rows {H : Type} {enc : TypeId × Value → H} {W : World} {t e : TypeId} {m : Nat} {n : Nat} {c : Value} {x : DataW H × List MemPlace} (ht : Tryz.prog.underlying t = some (.slice e)) (hm : Tryz.prog.cellsOf e = m) (hm0 : 0 < m)
    (h : DataW.trod enc Tryz.prog W 0 (fun _ => true) true n t [c] = some x) :
    c = .slice none 0 0 ∨ ∃ (a : Addr) (len cap k : Nat) (D : Nat → Nat), c = .slice (some a) len cap ∧ ((List.range len).map D).sum ≤ Rows.uptoBulk x.1 ∧ ∀ i, i < len → ∃ (cs : List Value) (y : DataW H × List MemPlace), cs.length = m ∧ a = ⟨a.block, a.off, none⟩ ∧ (∀ j, j < m → W.cell? ⟨a.block, a.off + i * m + j, none⟩ = cs[j]?) ∧ DataW.trod enc Tryz.prog W 0 (fun _ => true) true k e cs = some y ∧ Rows.uptoBulk y.1 = D i := by
  rcases DataW.trod_slice ht h with ⟨h0, _⟩ | ⟨a, len, cap, elems, rest, k, hk, hc, hx, hb, hl, hmx, hlen, hel, _, _⟩
  · simp only [List.cons.injEq, and_true] at h0
    exact .inl h0
  · simp only [List.cons.injEq, and_true] at hc
    rw [hm] at hel
    subst hlen
    have key : ∀ i (hi : i < elems.length), ∃ cs, W.cells? 0 (a.add (i * m)) m = some cs ∧ DataW.trod enc Tryz.prog W 0 (fun _ => true) true k e cs = some elems[i] := fun i hi => by
      have h1 := hel i hi
      rw [List.getElem?_eq_getElem (by omega), Option.bind_eq_some_iff] at h1
      exact h1
    refine .inr ⟨a, elems.length, cap, k, fun i => (elems.map fun y => Rows.uptoBulk y.1).getD i 0, hc, ?_, fun i hi => ?_⟩
    · have e1 := range_getD (elems.map fun y => Rows.uptoBulk y.1)
      rw [List.length_map] at e1
      rw [e1, hx]
      simp only [Rows.uptoBulk]
      rw [bulk_all, List.map_map]
      have e2 : (elems.map fun y => Rows.uptoBulk y.1) = elems.map (Rows.uptoBulk ∘ fun y => y.1) := rfl
      rw [e2]
      omega
    obtain ⟨cs, h1, h2⟩ := key i hi
    obtain ⟨cs0, g1, _⟩ := key 0 (by omega)
    obtain ⟨_, hl0, hc0⟩ := World.cells?_some g1
    have hsp : a.spot = none := by
      have q := hc0 0 (by omega)
      rw [Deep.add_add, List.getElem?_eq_getElem (by omega)] at q
      exact World.cell?_spot (a := a.add 0) (by simpa using q)
    obtain ⟨_, hlc, hcc⟩ := World.cells?_some h1
    obtain ⟨ab, ao, asp⟩ := a
    simp only at hsp
    subst hsp
    refine ⟨cs, elems[i], hlc, rfl, fun j hj => ?_, h2, ?_⟩
    · have q := hcc j hj
      rw [Deep.add_add, WideShapes.add_plain] at q
      rw [Nat.add_assoc]
      exact q
    · show _ = (elems.map fun y => Rows.uptoBulk y.1).getD i 0
      rw [List.getD_eq_getElem?_getD, List.getElem?_map, List.getElem?_eq_getElem hi]
      rfl
theorem le_sum {l : List Nat} {x : Nat} (h : x ∈ l) : x ≤ l.sum := by
  induction l with
  | nil => cases h
  | cons y r ih =>
    rw [List.sum_cons]
    rcases List.mem_cons.1 h with rfl | h
    · omega
    · have := ih h; omega
/-- One case that is read: its two cells. -/
def CaseAt (W : World) (b off : Nat) (x : Cs) : Prop := ∃ (aP aB : Option Addr) (cP cB : Nat), W.cell? ⟨b, off, none⟩ = some (.slice aP x.1.length cP) ∧ W.cell? ⟨b, off + 1, none⟩ = some (.slice aB x.2.length cB) ∧ IA W aP x.1 ∧ IA W aB x.2
set_option maxRecDepth 100000 in
/-- Cases that are read. -/
theorem open_cases {H : Type} {enc : TypeId × Value → H} {W : World} {n : Nat} {c : Value} {x : DataW H × List MemPlace} (h : DataW.trod enc Tryz.prog W 0 (fun _ => true) true n 22 [c] = some x) (hbk : Rows.uptoBulk x.1 ≤ 1048576) :
    ∃ (a : Option Addr) (C : List Cs) (cap : Nat), c = .slice a C.length cap ∧ CsA W a C ∧ C.length ≤ 1048576 ∧ ∀ y ∈ C, y.1.length ≤ 1048576 ∧ y.2.length ≤ 1048576 := by
  rcases open_rows Tryz.underlying22 cellsCase (by omega) h with rfl | ⟨a, len, cap, k, D, rfl, hb, hx⟩
  · exact ⟨none, [], 0, rfl, ⟨fun k h => absurd h (Nat.not_lt_zero _)⟩, by simp, by simp⟩
  · have hD : ∀ i, i < len → D i ≤ 1048576 := fun i hi => by
      have := le_sum (List.mem_map_of_mem (f := D) (List.mem_range.2 hi))
      omega
    obtain ⟨T, hT⟩ := Deep.choose_lt (n := len) (p := fun i (z : Cs) => a = ⟨a.block, a.off, none⟩ ∧ CaseAt W a.block (a.off + i * 2) z ∧ z.1.length ≤ 1048576 ∧ z.2.length ≤ 1048576 ∧ 1 ≤ D i) (fun i hi => by
      obtain ⟨cs, y, h1, h2, h3, h4, h5⟩ := hx i hi
      have hDi := hD i hi
      obtain ⟨ss, k2, _, hxs, _, hxl, hfs⟩ := DataW.trod_struct Tryz.underlying50 h4
      match cs, h1 with
      | [v0, v1], _ =>
        obtain ⟨y0, y1, rfl⟩ : ∃ y0 y1, ss = [y0, y1] := by
          match ss, hxl with
          | [y0, y1], _ => exact ⟨y0, y1, rfl⟩
        have f0 := hfs 0 _ rfl
        have f1 := hfs 1 _ rfl
        have g0 : DataW.trod enc Tryz.prog W 0 (fun _ => true) true k2 48 [v0] = some y0 := by simpa [cellsInts] using f0
        have g1 : DataW.trod enc Tryz.prog W 0 (fun _ => true) true k2 48 [v1] = some y1 := by simpa [cellsInts] using f1
        obtain ⟨aP, P, cP, rfl, iP, bP, _⟩ := open_points g0
        obtain ⟨aB, B, cB, rfl, iB, bB, _⟩ := open_points g1
        have hd : Rows.uptoBulk y.1 = Rows.uptoBulk y0.1 + Rows.uptoBulk y1.1 + 1 := by
          have := congrArg Prod.fst hxs
          simp only at this
          rw [this]
          simp only [Rows.uptoBulk, Rows.uptoBulkAll, List.map_cons, List.map_nil]
          omega
        refine ⟨(P, B), h2, ⟨aP, aB, cP, cB, h3 0 (by omega), h3 1 (by omega), iP, iB⟩, ?_, ?_, by omega⟩
        · show P.length ≤ 1048576
          omega
        · show B.length ≤ 1048576
          omega)
    have hlen : ((List.range len).map T).length = len := by simp
    refine ⟨some a, (List.range len).map T, cap, by rw [hlen], ⟨fun k hk => ?_⟩, ?_, fun y hy => ?_⟩
    · rw [hlen] at hk
      have et : ((List.range len).map T)[k]'(by rw [hlen]; exact hk) = T k := by simp
      obtain ⟨p1, p2, _⟩ := hT k hk
      obtain ⟨aP, aB, cP, cB, y0, y1, y2, y3⟩ := p2
      rw [et]
      exact ⟨a.block, a.off, aP, aB, cP, cB, congrArg some p1, lt_of_cell y0, y0, y1, y2, y3⟩
    · rw [hlen]
      have e : ∀ (l : List Nat), (∀ i ∈ l, i < len) → l.length ≤ (l.map D).sum := by
        intro l
        induction l with
        | nil => intro _; simp
        | cons x r ih =>
          intro hl
          rw [List.map_cons, List.sum_cons, List.length_cons]
          have h1 := (hT x (hl x List.mem_cons_self)).2.2.2.2
          have h2 := ih (fun i hi => hl i (List.mem_cons_of_mem _ hi))
          omega
      have := e (List.range len) (fun i hi => List.mem_range.1 hi)
      rw [List.length_range] at this
      omega
    · obtain ⟨i, hi, rfl⟩ := List.mem_map.1 hy
      obtain ⟨_, _, h3, h4, _⟩ := hT i (List.mem_range.1 hi)
      exact ⟨h3, h4⟩
theorem laid_tail {W : World} {x : String × DataW Unit} {rest : List (String × DataW Unit)} (h : laidMet Tryz.prog (x :: rest) W) : laidMet Tryz.prog rest W := by
  obtain ⟨ps, ⟨g, t, cs, fuel, p, q, _, _, _, _, hl, rfl⟩, hnd, hrows⟩ := h
  exact ⟨q, hl, (List.nodup_append.1 hnd).2.1, fun b off hb => hrows b off (List.mem_append_right _ hb)⟩
theorem g64 : Tryz.prog.globalNamed "math/bits.deBruijn64tab" = some 20 := by kernel_rfl
theorem g64Type : (Tryz.prog.globals[20]?).map (·.type) = some 197 := by kernel_rfl
theorem cells64 : Tryz.prog.cellsOf 197 = 64 := by kernel_rfl
theorem cellsU8 : Tryz.prog.cellsOf 5 = 1 := by kernel_rfl
def tab64 : List Int := [0, 1, 56, 2, 57, 49, 28, 3, 61, 58, 42, 50, 38, 29, 17, 4, 62, 47, 59, 36, 45, 43, 51, 22, 53, 39, 33, 30, 24, 18, 12, 5, 63, 55, 48, 27, 60, 41, 37, 16, 46, 35, 44, 21, 52, 32, 23, 11, 54, 26, 40, 15, 34, 20, 31, 10, 25, 14, 19, 9, 13, 8, 7, 6]
theorem tab64_at : ∀ j, j < Lib.deBruijn64tab.length → tab64.getD j 0 = ((Lib.deBruijn64tab.getD j 0 : Nat) : Int) := by decide
/-- What the row's list gives: the table's cells. -/
theorem tab_of {W : World} {rest : List (String × DataW Unit)} (h : laidMet Tryz.prog (("math/bits.deBruijn64tab", Rows.laid_math_bits_deBruijn64tab) :: rest) W) : TabAt 20 Lib.deBruijn64tab W := by
  have ht : Lib.TabIs Tryz.prog W "math/bits.deBruijn64tab" .u8 tab64 :=
    Lib.tabIs_of_head (rest := rest) g64 g64Type Tryz.underlying197 Tryz.underlying5 cellsU8 cells64 h
  intro j hj
  have hc := ht.cell g64 j (by have e : tab64.length = Lib.deBruijn64tab.length := rfl; omega)
  rw [hc, tab64_at j hj]
theorem g_Syn : Tryz.prog.globalNamed "strconv.ErrSyntax" = some 17 := by kernel_rfl
theorem synTypes : ∀ x ∈ [("strconv.ErrSyntax", sentText Rows.laid_strconv_ErrSyntax)], ∀ g t, Tryz.prog.globalNamed x.1 = some g → (Tryz.prog.globals[g]?).map (·.type) = some t → t = 24 := by
  have h : ((Tryz.prog.globals[17]?).map (·.type)) = some 24 := by kernel_rfl
  intro x hx g t hg ht
  rw [List.mem_singleton] at hx
  subst hx
  have e : g = 17 := Option.some.inj (hg.symm.trans g_Syn)
  subst e
  exact Option.some.inj (ht.symm.trans h)
theorem syn_of {W : World} {rest : List (String × DataW Unit)} (h : laidMet Tryz.prog (("strconv.ErrSyntax", Rows.laid_strconv_ErrSyntax) :: rest) W) : ∃ ev, W.cell? ⟨17, 0, none⟩ = some ev ∧ (ev = .nilIface ∨ ∃ te pe, ev = .iface te pe) := by
  obtain ⟨ps, hl, hnd, hrows⟩ := h
  obtain ⟨xs, _, _, _, h4⟩ := sents_list rest [("strconv.ErrSyntax", sentText Rows.laid_strconv_ErrSyntax)] ps hl hnd hrows synTypes
  exact ⟨_, h4 0 (by decide) _ g_Syn, .inr ⟨_, _, rfl⟩⟩
theorem ety : Tryz.prog.globalNamed "errors.errorType" = some 7 := by kernel_rfl
theorem rtt : (Tryz.prog.cutTypes.find? (·.1 == "internal/reflectlite.rtype")).map (·.2) = some 101 := by kernel_rfl
theorem typesN : Tryz.prog.types.size = 224 := by kernel_rfl
theorem oneRow : ((List.range 224).filter fun t => Tryz.prog.rowNamed t [101, 114, 114, 111, 114]) = [24] := by kernel_rfl
theorem hErr : typeHandle Tryz.prog 24 = .pointer (some ⟨21, 24, none⟩) := by kernel_rfl
/-- What the condition gives: the variable's one cell. -/
theorem errTy_of {W : World} {hs : List (String × DataW Unit)} (h : handlesMet Tryz.prog (("errors.errorType", Rows.laid_errors_errorType) :: hs) W) : ErrTy W := by
  obtain ⟨name, u, ty, e1, e2, e3, e4, e5⟩ := h _ (List.mem_cons_self)
  have en : name = [101, 114, 114, 111, 114] := (Option.some.inj e1).symm
  subst en
  obtain rfl := Option.some.inj (rtt.symm.trans e2)
  have hm : ty ∈ (List.range 224).filter fun t => Tryz.prog.rowNamed t [101, 114, 114, 111, 114] := List.mem_filter.2 ⟨List.mem_range.2 (by rw [← typesN]; exact e3), e4⟩
  rw [oneRow] at hm
  obtain rfl := List.mem_singleton.1 hm
  rw [hErr] at e5
  unfold ErrTy
  simpa using World.var?_cell ety e5 0
/-- A list without its handles. -/
def dataOf (l : List (String × DataW Unit)) : List (String × DataW Unit) := l.filter fun x => x.2.handleName?.isNone
theorem laid_drop {W : World} : ∀ (n : Nat) (l : List (String × DataW Unit)), laidMet Tryz.prog l W → laidMet Tryz.prog (l.drop n) W
  | 0, _, h => h
  | _ + 1, [], h => h
  | n + 1, _ :: l, h => laid_drop n l (laid_tail h)
/-- A world whose handle is laid. -/
noncomputable def hBase (os : Os) : World :=
  let w0 := World.holding Tryz.prog os ⟨#[], #[], []⟩
  { w0 with heap := w0.heap.modify 7 fun
      | .cells _ t frozen => .cells #[.iface 101 (.agg #[.pointer (some ⟨21, 24, none⟩)])] t frozen
      | o => o }
noncomputable def hWorld (os : Os) (dl : List (String × DataW Unit)) : World := (hBase os).layVars Tryz.prog dl
theorem hWorld_os (os : Os) (dl : List (String × DataW Unit)) : (hWorld os dl).os = os := World.layVars_os _ _ _
theorem hWorld_met {os : Os} {laid dl : List (String × DataW Unit)} (args : Array Value) (hdl : (laid.filter fun x => x.2.handleName?.isNone) = dl)
    (hf : (hBase os).layFits Tryz.prog dl [] = true) (hi : (hBase os).layIfaces Tryz.prog dl (hWorld os dl) = true)
    (hh : (laid.filter fun x => x.2.handleName?.isSome).all (handleAtB Tryz.prog ((hWorld os dl).forCall (fun _ _ => 0) ⟨#[], args, []⟩).memory) = true) :
    laidMetH Tryz.prog laid ((hWorld os dl).forCall (fun _ _ => 0) ⟨#[], args, []⟩).memory := by
  refine laidMetH_of_parts ?_ hh
  rw [hdl]
  have e1 : (dl.filter fun x => (dl.map (·.1)).contains x.1) = dl := List.filter_eq_self.2 fun x hx => List.contains_iff_mem.2 (List.mem_map.2 ⟨x, hx, rfl⟩)
  have e2 : (dl.filter fun x => !(dl.map (·.1)).contains x.1) = [] := List.filter_eq_nil_iff.2 fun x hx => by rw [List.contains_iff_mem.2 (List.mem_map.2 ⟨x, hx, rfl⟩)]; simp
  have h : laidMet Tryz.prog dl (hWorld os dl) := laidMet_layVars (w0 := hBase os) (dl.map (·.1)) [] (by rw [e1]; rfl) (by rw [e1]; exact hf) (by rw [e1]; exact hi) (by rw [e2]; exact LaidIn.none)
  exact h.of_heap (by simp [World.memory, World.forCall, Input.heap])
end Go.Proofs.YtcbepmjojppokaaGreatDoor.Tp
namespace Go.Proofs.YtcbepmjojppokaaGreatDoor
open Go.ChangeShapes Go.WideShapes Go.ChangeAt Go.RowKit Go.Joins
/-- The three refusals that the row lists. -/
def list3 : List (String × List UInt8) := [("caesura/api.ErrArg", sentText Rows.laid_caesura_api_ErrArg), ("caesura/api.ErrText", sentText Rows.laid_caesura_api_ErrText), ("caesura/api.ErrMany", sentText Rows.laid_caesura_api_ErrMany)]
theorem types3 : ∀ x ∈ list3, ∀ g t, Tryz.prog.globalNamed x.1 = some g → (Tryz.prog.globals[g]?).map (·.type) = some t → t = 24 := by
  have h : (list3.all fun x => match Tryz.prog.globalNamed x.1 with | some g => (Tryz.prog.globals[g]?).map (·.type) == some 24 | none => true) = true := by kernel_rfl
  intro x hx g t hg ht
  have := List.all_eq_true.1 h x hx
  rw [hg] at this
  simp only [ht] at this
  simpa using this
theorem sen3_of {W : World} {rest : List (String × DataW Unit)} (h : laidMet Tryz.prog (list3.map sentRow ++ rest) W) : ∃ A, Sen3 W A := by
  obtain ⟨ps, hl, hnd, hrows⟩ := h
  obtain ⟨xs, h1, h2, h3, h4⟩ := sents_list rest list3 ps hl hnd hrows types3
  exact ⟨fun i => xs.getD i ⟨0, 0, none⟩, h4 0 (by decide) _ g_ErrArg, h4 1 (by decide) _ g_ErrText, h4 2 (by decide) _ g_ErrMany⟩
/-- The row's list without the handle. -/
def shortList : List (String × DataW Unit) := [("math/bits.deBruijn32tab", Rows.laid_math_bits_deBruijn32tab), ("math/bits.deBruijn64tab", Rows.laid_math_bits_deBruijn64tab), ("internal/strconv.uint64pow10", Rows.laid_internal_strconv_uint64pow10), ("unicode/utf8.acceptRanges", Rows.laid_unicode_utf8_acceptRanges)] ++ (list3.map sentRow ++ [("strconv.ErrRange", Rows.laid_strconv_ErrRange), ("strconv.ErrSyntax", Rows.laid_strconv_ErrSyntax), ("unicode.CaseRanges", Rows.laid_unicode_CaseRanges), ("unicode/utf8.first", Rows.laid_unicode_utf8_first)])
set_option maxRecDepth 100000 in
theorem env_of {W : World} (hL : laidMetH Tryz.prog Rows.testShortRow.laid W) : ∃ A, Tp.EnvT W A := by
  have hL0 : laidMet Tryz.prog shortList W ∧ handlesMet Tryz.prog [("errors.errorType", Rows.laid_errors_errorType)] W := hL
  obtain ⟨A, hA⟩ := sen3_of (rest := [("strconv.ErrRange", Rows.laid_strconv_ErrRange), ("strconv.ErrSyntax", Rows.laid_strconv_ErrSyntax), ("unicode.CaseRanges", Rows.laid_unicode_CaseRanges), ("unicode/utf8.first", Rows.laid_unicode_utf8_first)]) (Tp.laid_drop 4 _ hL0.1)
  exact ⟨A, hA, Tp.syn_of (rest := [("unicode.CaseRanges", Rows.laid_unicode_CaseRanges), ("unicode/utf8.first", Rows.laid_unicode_utf8_first)]) (Tp.laid_drop 8 _ hL0.1), Tp.errTy_of hL0.2, Tp.tab_of (Tp.laid_drop 1 _ hL0.1)⟩
set_option maxRecDepth 100000 in
theorem testShort_walk {H : Type} (enc : TypeId × Value → H) (W : World) (base : Nat) (hL : laidMetH Tryz.prog Rows.testShortRow.laid W) (v : Value) (d : DataW H) (p : List MemPlace) (hv : Value.okWide Tryz.prog W .any base 9 v)
    (h0 : DataW.Trod enc Tryz.prog W 0 (fun _ => true) true 9 v d p) (_hlt : ∀ x ∈ p, x.block < W.heap.size) (_hw : ∀ x ∈ d.weights Tryz.prog 9, x ≤ reachBytes) :
    Calls Tryz.prog 4 #[v] W fun e W' => e = .returned (.bool true) ∧ Below W.heap.size W W' := by
  obtain ⟨s, rfl, rfl, _⟩ := Go.ChangeMaps.open_string Tryz.underlying9 hv h0
  obtain ⟨A, hE⟩ := env_of hL
  exact (Tp.testShort_any s.data.toList A W hE).mono (fun e w' h => ⟨h.1, h.2.out⟩)
set_option maxRecDepth 100000 in
theorem testShort_lifted (os : Os) (started : os.Started) (H : Type) (enc : TypeId × Value → H) (F : Stop.Interp) :
    ReturnsInHanded {} Tryz.checked os 4 .any ((OpenSpec.ofChange Rows.testShortSpec).preRow enc Tryz.prog Tryz.f4 Rows.testShortRow.domain false Rows.testShortRow.laid) (((OpenSpec.ofChange Rows.testShortSpec).at F).post enc Tryz.prog Tryz.f4 false true false false) := by
  refine returnsInHanded_of_row (C := Tryz.checked) (s := OpenSpec.ofChange Rows.testShortSpec) own started (by kernel_rfl) Tryz.func4
    (witness_row_shaped (enc := enc) (C := Tryz.checked) (Tp.hWorld os (Tp.dataOf Rows.testShortRow.laid)) #[.string ByteArray.empty] (Tp.hWorld_os _ _) (World.shaped_of_ZipB (by kernel_rfl) (by kernel_rfl)) (by kernel_rfl)
      (OpenSpec.preRow_of_cond 8 (x := ([.lit (.string [])], [], [])) (by kernel_rfl) (by kernel_rfl) (fun k hk => by cases hk) (by kernel_rfl) (Tp.hWorld_met _ rfl (by kernel_rfl) (by kernel_rfl) (by kernel_rfl)))) ?_
  intro W base args ds gs before hval hW _ _ hsz hL _ _
  exact law_contract rfl rfl rfl (fun _ _ => rfl) (by kernel_rfl) (of_decide_eq_true (by kernel_rfl)) W base args ds gs before hval hW hsz (fun v d p hv h0 hlt hw _ _ => testShort_walk enc W base hL v d p hv h0 hlt hw )
theorem testShort_said : Rows.TestShortSaid :=
  OpenClaim.holds_of_cond 4 Tryz.f4 rfl rfl rfl rfl rfl rfl rfl ⟨rfl, rfl, rfl, rfl, rfl⟩ rfl rfl rfl rfl rfl (by kernel_rfl) Tryz.func4 (by kernel_rfl)
    (of_decide_eq_true (by kernel_rfl)) (by unfold Func.isWrapper; first | (rw [if_pos (by decide +kernel)]; kernel_rfl) | (rw [if_neg (by decide +kernel)]; exact ⟨rfl, rfl⟩))
    (fun os started H enc _ F => by rw [OpenClaim.pre_eq_preRow]; exact testShort_lifted os started H enc F)
theorem testShort_plain (f : FuncId) (fn : Func) (hf : Tryz.pinned.checked.prog.funcNamed "caesura/caesuralaw23.TestShort" = some f) (hfn : Tryz.pinned.checked.prog.funcs[f]? = some fn) :
    true = Tryz.pinned.checked.prog.looks [] ∧ ∀ (j : Nat) t, fn.params[j]? = some t → Tryz.pinned.checked.prog.wantsStandIn t = false := by
  obtain rfl : f = 4 := Option.some.inj ((show Tryz.prog.funcNamed "caesura/caesuralaw23.TestShort" = some 4 by kernel_rfl).symm.trans hf) |>.symm
  obtain rfl : fn = Tryz.f4 := (Option.some.inj (Tryz.func4.symm.trans hfn)).symm
  refine ⟨by kernel_rfl, fun j t ht => ?_⟩
  rw [Tryz.params4] at ht
  obtain rfl : t = 9 := by simpa using Array.mem_of_getElem? ht
  exact (show Tryz.prog.wantsStandIn 9 = false by kernel_rfl)
theorem testShort_card : Rows.TestShortCardSaid :=
  Claim7.holds_tied_plain_at .later [] _ _ _ _ testShort_said (fun _ h => by cases h) (by kernel_rfl) (fun _ h => by cases h) testShort_row_tie rfl ⟨rfl, rfl⟩ (by kernel_rfl) rfl testShort_plain (by kernel_rfl)
end Go.Proofs.YtcbepmjojppokaaGreatDoor
