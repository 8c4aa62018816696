/-
  ExTbM, ExTcM, ExUaM, ExTdM, ExTeW, ExTfW, ExUbM, ShelfK, ExUcW, ExUdW, ExTjW, ExTkW, ExTlM, ExUeW, ExTmW, ExTnM.
-/
import Derived.Test.YtolnoojbcbdfiaaDoorMob
import Derived.Test.YtolnoojbcbdfiaaDoorMod
import Derived.Maps.AppendAt
import Derived.Shelf.Strconv.Clone
import Derived.Test.YtolnoojbcbdfiaaDoorProg
import Derived.Deep.RegionHeld3
namespace Go.Proofs.YtolnoojbcbdfiaaDoor
open Go.RowKit Go.Shelf
def kindT (k : Int) : Nat := 1 + pickN (IntKind.i64.wrap (k - 1)) 7
theorem kindT_le (k : Int) : 1 ≤ kindT k ∧ kindT k ≤ 7 := by
  have := pickN_lt (IntKind.i64.wrap (k - 1)) 7 (by omega)
  unfold kindT
  omega
def leafE (k : Int) (nt : Bool) (N : List ByteArray) (P : List (Int × Int)) : Ex := if kindT k = 1 then .mk 1 false [] [] [] else .mk 2 nt (nmK N 3) (ptK P) []
/-- What glued adds. -/
def gl (k : Int) (e : Ex) : List Ex := if e.kind = k then e.parts else if k = 3 ∧ e.kind = 1 then [] else [e]
def nodeE (k : Int) : List Ex → Ex
  | [] => .mk 1 false [] [] []
  | [x] => x
  | x :: y :: l => .mk k false [] [] (x :: y :: l)
def oneK (k : Nat) : Nat := if k < 5 then 5 else k
def tidyE : Nat → Ex → Ex
  | 0, .mk k nt N P _ => leafE k nt N P
  | _ + 1, .mk k nt N P [] => leafE k nt N P
  | n + 1, .mk k _ _ _ (p :: L) => if kindT k = 3 ∨ kindT k = 4 then nodeE (kindT k) (((p :: L).take 3).flatMap fun x => gl (kindT k) (tidyE n x)) else .mk (oneK (kindT k)) false [] [] [tidyE n p]
/-- An expression that may be, so many levels at most. -/
def WfE : Nat → Ex → Prop
  | 0, _ => False
  | d + 1, .mk k nt N P L => wholeF mayF k nt N P L.length = true ∧ formF k L = true ∧ N.length + P.length ≤ 4 ∧ ∀ p, p ∈ L → WfE d p
theorem WfE.up : ∀ (d : Nat) (e : Ex), WfE d e → WfE (d + 1) e
  | 0, _, h => h.elim
  | d + 1, .mk _ _ _ _ _, h => ⟨h.1, h.2.1, h.2.2.1, fun p hp => WfE.up d p (h.2.2.2 p hp)⟩
theorem WfE.le {d d' : Nat} {e : Ex} (h : WfE d e) (hd : d ≤ d') : WfE d' e := by
  obtain ⟨k, rfl⟩ : ∃ k, d' = d + k := ⟨d' - d, by omega⟩
  clear hd
  induction k with
  | zero => exact h
  | succ k ih => exact WfE.up _ _ ih
mutual
theorem wf_chk : ∀ (e : Ex) (m d n s : Nat), WfE m e → n + e.size ≤ 4000 → d + m ≤ 129 → s + 4 * e.size ≤ 65536 → ∃ s', s' ≤ s + 4 * e.size ∧ chkE mayF e d n s = .ok (n + e.size) s' := fun e m d n s h hn hd hs => by
  match e, m, h with
  | .mk k nt N P L, m + 1, h =>
    obtain ⟨h1, h2, h3, h4⟩ := h
    rw [Ex.size_mk] at hn hs ⊢
    simp only [chkE]
    rw [if_pos ⟨by omega, by omega, by omega⟩, if_pos h1, if_pos h2]
    obtain ⟨s', a, b⟩ := wf_chkL L m (d + 1) (n + 1) (s + (N.length + P.length)) h4 (by omega) (by omega) (by omega)
    exact ⟨s', by omega, by rw [b]; congr 1; omega⟩
theorem wf_chkL : ∀ (L : List Ex) (m d n s : Nat), (∀ p, p ∈ L → WfE m p) → n + Ex.size.sizes L ≤ 4000 → d + m ≤ 129 → s + 4 * Ex.size.sizes L ≤ 65536 → ∃ s', s' ≤ s + 4 * Ex.size.sizes L ∧ chkL mayF L d n s = .ok (n + Ex.size.sizes L) s' := fun L m d n s h hn hd hs => by
  match L with
  | [] => exact ⟨s, by omega, rfl⟩
  | e :: L =>
    rw [sizes_cons] at hn hs ⊢
    simp only [chkL]
    obtain ⟨s1, a1, b1⟩ := wf_chk e m d n s (h e (by simp)) (by omega) hd (by omega)
    rw [b1]
    obtain ⟨s2, a2, b2⟩ := wf_chkL L m d (n + e.size) s1 (fun p hp => h p (by simp [hp])) (by omega) hd (by omega)
    exact ⟨s2, by omega, by simp only []; rw [b2]; congr 1; omega⟩
end
theorem wf_ok {m : Nat} {e : Ex} (h : WfE m e) (hm : m ≤ 128) (hs : e.size ≤ 4000) : okE e = true := by
  obtain ⟨s', _, b⟩ := wf_chk e m 1 0 0 h (by omega) (by omega) (by omega)
  unfold okE
  rw [b]
  rfl
theorem names_may (N : List ByteArray) : nmsF (nmK N 3) = true := by
  unfold nmK nmK nmK nmK
  cases oddN N 0 <;> cases oddN N 1 <;> cases oddN N 2 <;> decide +kernel
theorem points_may (P : List (Int × Int)) : ptsF (ptK P) = true := by
  cases P with
  | nil => rfl
  | cons r P =>
    have h1 := pickN_lt r.1 100 (by omega)
    have h2 := pickN_lt r.2 9 (by omega)
    unfold ptK ptsF
    simp only [ptsGo]
    rw [if_neg (by omega), if_neg (by omega), if_neg (by omega)]
theorem pts_len (P : List (Int × Int)) : (ptK P).length ≤ 1 := by
  cases P with
  | nil => exact Nat.zero_le _
  | cons r P => exact Nat.le_refl _
theorem leaf_wf (k : Int) (nt : Bool) (N : List ByteArray) (P : List (Int × Int)) : WfE 1 (leafE k nt N P) ∧ (leafE k nt N P).size = 1 := by
  have a := nmK_len N 3
  have b := pts_len P
  unfold leafE
  split
  · exact ⟨⟨rfl, rfl, by simp, fun p hp => (by cases hp)⟩, by rw [Ex.size_mk]; rfl⟩
  · refine ⟨⟨?_, rfl, by omega, fun p hp => (by cases hp)⟩, by rw [Ex.size_mk]; rfl⟩
    unfold wholeF mayF
    rw [if_neg (by decide), if_pos rfl, names_may, points_may]
    rfl
theorem set_wf (nt : Bool) (N : List ByteArray) (P : List (Int × Int)) : WfE 1 (.mk 2 nt (nmK N 3) (ptK P) []) ∧ (Ex.mk 2 nt (nmK N 3) (ptK P) []).size = 1 := by
  have a := nmK_len N 3
  have b := pts_len P
  refine ⟨⟨?_, rfl, by omega, fun p hp => (by cases hp)⟩, by rw [Ex.size_mk]; rfl⟩
  unfold wholeF mayF
  rw [if_neg (by decide), if_pos rfl, names_may, points_may]
  rfl
theorem sizes_app (L M : List Ex) : Ex.size.sizes (L ++ M) = Ex.size.sizes L + Ex.size.sizes M := by
  induction L with
  | nil => rw [List.nil_append, Ex.size.sizes]; omega
  | cons e L ih => rw [List.cons_append, sizes_cons, sizes_cons, ih]; omega
theorem gl_size (k : Int) (e : Ex) : Ex.size.sizes (gl k e) ≤ e.size := by
  cases e with
  | mk q nt N P L =>
    unfold gl
    split
    · rw [Ex.size_mk]; exact Nat.le_add_left _ _
    · split
      · exact Nat.zero_le _
      · rw [sizes_cons]; exact Nat.le_refl _
theorem flat_size (k : Int) (f : Ex → Ex) (S : Nat) : ∀ (L : List Ex), (∀ x, x ∈ L → (f x).size ≤ S) → Ex.size.sizes (L.flatMap fun x => gl k (f x)) ≤ L.length * S
  | [], _ => Nat.zero_le _
  | x :: L, h => by
    rw [List.flatMap_cons, sizes_app, List.length_cons, Nat.succ_mul]
    have h1 := gl_size k (f x)
    have h2 := h x (by simp)
    have h3 := flat_size k f S L (fun y hy => h y (by simp [hy]))
    omega
theorem hasK_no {L : List Ex} {q : Int} (h : ∀ p, p ∈ L → p.kind ≠ q) : hasK L q = false := by
  unfold hasK
  rw [List.any_eq_false]
  intro p hp
  simpa using h p hp
theorem no_hasK {L : List Ex} {q : Int} (h : hasK L q = false) : ∀ p, p ∈ L → p.kind ≠ q := by
  unfold hasK at h
  rw [List.any_eq_false] at h
  intro p hp
  simpa using h p hp
/-- A part that a node of such a kind takes. -/
def Fit (d : Nat) (k : Int) (p : Ex) : Prop := WfE d p ∧ p.kind ≠ k ∧ (k = 3 → p.kind ≠ 1)
theorem gl_fit {d : Nat} {k : Int} {e : Ex} (hk : k = 3 ∨ k = 4) (h : WfE d e) : ∀ p, p ∈ gl k e → Fit d k p := by
  match d, e, h with
  | d + 1, .mk q nt N P L, h =>
    intro p hp
    unfold gl at hp
    split at hp
    · rename_i hq
      have hq' : q = k := hq
      have hp' : p ∈ L := hp
      subst hq'
      refine ⟨WfE.up _ _ (h.2.2.2 p hp'), ?_⟩
      have hf := h.2.1
      unfold formF at hf
      rcases hk with rfl | rfl
      · rw [if_pos rfl] at hf
        simp only [Bool.and_eq_true, Bool.not_eq_true', decide_eq_true_eq] at hf
        exact ⟨no_hasK hf.2.1 p hp', fun _ => no_hasK hf.2.2 p hp'⟩
      · rw [if_neg (by decide), if_pos rfl] at hf
        simp only [Bool.and_eq_true, Bool.not_eq_true', decide_eq_true_eq] at hf
        exact ⟨no_hasK hf.2 p hp', fun e => absurd e (by decide)⟩
    · rename_i hq
      split at hp
      · cases hp
      · rename_i h1
        rw [List.mem_singleton.1 hp]
        exact ⟨h, hq, fun e1 e2 => h1 ⟨e1, e2⟩⟩
theorem node_wf {d : Nat} {k : Int} (hk : k = 3 ∨ k = 4) {l : List Ex} (h : ∀ p, p ∈ l → Fit d k p) : WfE (d + 1) (nodeE k l) := by
  match l, h with
  | [], h => exact ⟨rfl, rfl, by simp, fun p hp => (by cases hp)⟩
  | [x], h => exact WfE.up _ _ (h x (by simp)).1
  | x :: y :: l, h =>
    refine ⟨?_, ?_, by simp, fun p hp => (h p hp).1⟩
    · rcases hk with rfl | rfl <;> rfl
    · have h1 := hasK_no (q := k) (fun p hp => (h p hp).2.1)
      unfold formF
      rcases hk with rfl | rfl
      · rw [if_pos rfl, h1, hasK_no (q := 1) (fun p hp => (h p hp).2.2 rfl)]
        simp
      · rw [if_neg (by decide), if_pos rfl, h1]
        simp
theorem node_size (k : Int) (l : List Ex) : (nodeE k l).size ≤ 1 + Ex.size.sizes l := by
  match l with
  | [] => unfold nodeE; rw [Ex.size_mk]; exact Nat.le_refl _
  | [x] => show x.size ≤ _; rw [sizes_cons]; omega
  | x :: y :: l => unfold nodeE; rw [Ex.size_mk]; exact Nat.le_refl _
theorem one_wf {d : Nat} {q : Int} (hq : q = 5 ∨ q = 6 ∨ q = 7) {e : Ex} (h : WfE d e) : WfE (d + 1) (.mk q false [] [] [e]) := by
  refine ⟨?_, ?_, by simp, fun p hp => by rw [List.mem_singleton.1 hp]; exact h⟩
  · rcases hq with rfl | rfl | rfl <;> rfl
  · rcases hq with rfl | rfl | rfl <;> rfl
theorem one_size (q : Int) (e : Ex) : (Ex.mk q false [] [] [e]).size = 1 + e.size := by
  rw [Ex.size_mk, sizes_cons]
  rfl
def szT : Nat → Nat
  | 0 => 1
  | n + 1 => 1 + 3 * szT n
theorem szT_pos : ∀ n, 1 ≤ szT n
  | 0 => Nat.le_refl _
  | n + 1 => by unfold szT; omega
theorem tidy_wf : ∀ (n : Nat) (e : Ex), WfE (n + 1) (tidyE n e) ∧ (tidyE n e).size ≤ szT n
  | 0, .mk k nt N P _ => by
    have h := leaf_wf k nt N P
    unfold tidyE szT
    exact ⟨h.1, by omega⟩
  | n + 1, .mk k nt N P [] => by
    have h := leaf_wf k nt N P
    have h2 := szT_pos (n + 1)
    unfold tidyE
    exact ⟨h.1.le (by omega), by omega⟩
  | n + 1, .mk k nt N P (p :: L) => by
    have hk := kindT_le k
    unfold tidyE szT
    split
    · rename_i h34
      have h34' : ((kindT k : Nat) : Int) = 3 ∨ ((kindT k : Nat) : Int) = 4 := by omega
      refine ⟨node_wf h34' (fun x hx => ?_), ?_⟩
      · obtain ⟨y, _, hy2⟩ := List.mem_flatMap.1 hx
        exact gl_fit h34' (tidy_wf n y).1 x hy2
      · have h1 := node_size (kindT k) (((p :: L).take 3).flatMap fun x => gl (kindT k) (tidyE n x))
        have h2 := flat_size (kindT k) (tidyE n) (szT n) ((p :: L).take 3) (fun x _ => (tidy_wf n x).2)
        have h3 : ((p :: L).take 3).length * szT n ≤ 3 * szT n := Nat.mul_le_mul_right _ (by rw [List.length_take]; omega)
        omega
    · rename_i h34
      have h567 : ((oneK (kindT k) : Nat) : Int) = 5 ∨ ((oneK (kindT k) : Nat) : Int) = 6 ∨ ((oneK (kindT k) : Nat) : Int) = 7 := by
        unfold oneK
        split <;> omega
      refine ⟨one_wf h567 (tidy_wf n p).1, ?_⟩
      rw [one_size]
      have := (tidy_wf n p).2
      have := szT_pos n
      omega
/-- How many parts a node has. -/
theorem parts_le {e : Ex} : e.parts.length ≤ e.size := by
  cases e with
  | mk k nt N P L =>
    rw [Ex.size_mk]
    have := len_le_sizes L
    show L.length ≤ _
    omega
end Go.Proofs.YtolnoojbcbdfiaaDoor
namespace Go.Proofs.YtolnoojbcbdfiaaDoor
open Go.RowKit Go.Shelf
theorem mt_none (nt : Bool) (N : List ByteArray) (P : List (Int × Int)) (L : List Ex) (w : List Kd) : Mt (.mk 1 nt N P L) w ↔ w = [] :=
  ⟨fun h => by cases h; rfl, fun h => by rw [h]; exact .none nt N P L⟩
theorem mt_seq_nil (nt : Bool) (N : List ByteArray) (P : List (Int × Int)) (w : List Kd) : Mt (.mk 3 nt N P []) w ↔ w = [] :=
  ⟨fun h => by cases h; rfl, fun h => by rw [h]; exact .seq0 nt N P⟩
theorem mt_seq_cons (nt : Bool) (N : List ByteArray) (P : List (Int × Int)) (e : Ex) (L : List Ex) (w : List Kd) : Mt (.mk 3 nt N P (e :: L)) w ↔ ∃ u v, w = u ++ v ∧ Mt e u ∧ Mt (.mk 3 nt N P L) v := by
  constructor
  · intro h
    cases h with
    | seq1 _ _ _ _ _ u v h1 h2 => exact ⟨u, v, rfl, h1, h2⟩
  · rintro ⟨u, v, rfl, h1, h2⟩
    exact .seq1 nt N P e L u v h1 h2
theorem mt_seq_one (nt : Bool) (N : List ByteArray) (P : List (Int × Int)) (e : Ex) (w : List Kd) : Mt (.mk 3 nt N P [e]) w ↔ Mt e w := by
  rw [mt_seq_cons]
  constructor
  · rintro ⟨u, v, rfl, h1, h2⟩
    rw [(mt_seq_nil nt N P v).1 h2, List.append_nil]
    exact h1
  · exact fun h => ⟨w, [], by simp, h, .seq0 nt N P⟩
theorem mt_seq_app (nt : Bool) (N : List ByteArray) (P : List (Int × Int)) (A B : List Ex) : ∀ (w : List Kd), Mt (.mk 3 nt N P (A ++ B)) w ↔ ∃ u v, w = u ++ v ∧ Mt (.mk 3 nt N P A) u ∧ Mt (.mk 3 nt N P B) v := by
  induction A with
  | nil =>
    intro w
    rw [List.nil_append]
    constructor
    · exact fun h => ⟨[], w, rfl, .seq0 nt N P, h⟩
    · rintro ⟨u, v, rfl, h1, h2⟩
      rw [(mt_seq_nil nt N P u).1 h1]
      exact h2
  | cons e A ih =>
    intro w
    rw [List.cons_append, mt_seq_cons]
    constructor
    · rintro ⟨u, v, rfl, h1, h2⟩
      obtain ⟨u2, v2, rfl, h3, h4⟩ := (ih v).1 h2
      exact ⟨u ++ u2, v2, by rw [List.append_assoc], .seq1 nt N P e A u u2 h1 h3, h4⟩
    · rintro ⟨u, v, rfl, h1, h2⟩
      obtain ⟨u1, u2, rfl, h3, h4⟩ := (mt_seq_cons nt N P e A u).1 h1
      exact ⟨u1, u2 ++ v, by rw [List.append_assoc], h3, (ih _).2 ⟨u2, v, rfl, h4, h2⟩⟩
theorem zero_of {nt : Bool} {N : List ByteArray} {P : List (Int × Int)} (h : zeroF nt N P = true) : nt = false ∧ N = [] ∧ P = [] := by
  unfold zeroF at h
  simp only [Bool.and_eq_true, Bool.not_eq_true', beq_iff_eq, List.length_eq_zero_iff] at h
  exact ⟨h.1.1, h.1.2, h.2⟩
theorem mt_gl3 {d : Nat} {e : Ex} (h : WfE d e) (w : List Kd) : Mt (.mk 3 false [] [] (gl 3 e)) w ↔ Mt e w := by
  match d, e, h with
  | d + 1, .mk q nt N P L, h =>
    unfold gl
    split
    · rename_i hq
      have hq' : q = 3 := hq
      subst hq'
      have h1 := h.1
      unfold wholeF at h1
      rw [if_neg (by decide), if_neg (by decide), if_pos (by decide)] at h1
      obtain ⟨rfl, rfl, rfl⟩ := zero_of h1
      exact Iff.rfl
    · split
      · rename_i hq
        have hq' : q = 1 := hq.2
        subst hq'
        rw [mt_seq_nil, mt_none]
      · exact mt_seq_one _ _ _ _ _
theorem mt_node3 (l : List Ex) (w : List Kd) : Mt (nodeE 3 l) w ↔ Mt (.mk 3 false [] [] l) w := by
  match l with
  | [] => unfold nodeE; rw [mt_seq_nil, mt_none]
  | [x] => unfold nodeE; rw [mt_seq_one]
  | x :: y :: l => exact Iff.rfl
/-- One behind the other. -/
theorem mt_two {d d' : Nat} {a b : Ex} (ha : WfE d a) (hb : WfE d' b) (w : List Kd) : Mt (nodeE 3 (gl 3 a ++ gl 3 b)) w ↔ ∃ i, i ≤ w.length ∧ Mt a (w.take i) ∧ Mt b (w.drop i) := by
  rw [mt_node3, mt_seq_app]
  constructor
  · rintro ⟨u, v, rfl, h1, h2⟩
    exact ⟨u.length, by simp, by simpa using (mt_gl3 ha u).1 h1, by simpa using (mt_gl3 hb v).1 h2⟩
  · rintro ⟨i, hi, h1, h2⟩
    exact ⟨w.take i, w.drop i, by simp, (mt_gl3 ha _).2 h1, (mt_gl3 hb _).2 h2⟩
theorem mt_alt (nt : Bool) (N : List ByteArray) (P : List (Int × Int)) (L : List Ex) (w : List Kd) : Mt (.mk 4 nt N P L) w ↔ ∃ e, e ∈ L ∧ Mt e w := by
  constructor
  · intro h
    cases h with
    | alt _ _ _ e _ _ h1 h2 => exact ⟨e, h1, h2⟩
  · rintro ⟨e, h1, h2⟩
    exact .alt nt N P e L w h1 h2
theorem mt_gl4 (e : Ex) (w : List Kd) : (∃ p, p ∈ gl 4 e ∧ Mt p w) ↔ Mt e w := by
  cases e with
  | mk q nt N P L =>
    unfold gl
    split
    · rename_i hq
      have hq' : q = 4 := hq
      subst hq'
      rw [mt_alt]
      exact Iff.rfl
    · rw [if_neg (fun h => absurd h.1 (by decide))]
      exact ⟨fun ⟨p, h1, h2⟩ => by rw [List.mem_singleton.1 h1] at h2; exact h2, fun h => ⟨_, List.mem_singleton.2 rfl, h⟩⟩
/-- One of two. -/
theorem mt_either (a b : Ex) (w : List Kd) : Mt (.mk 4 false [] [] (gl 4 a ++ gl 4 b)) w ↔ Mt a w ∨ Mt b w := by
  rw [mt_alt, ← mt_gl4 a, ← mt_gl4 b]
  constructor
  · rintro ⟨e, h1, h2⟩
    rcases List.mem_append.1 h1 with h | h
    · exact .inl ⟨e, h, h2⟩
    · exact .inr ⟨e, h, h2⟩
  · rintro (⟨e, h1, h2⟩ | ⟨e, h1, h2⟩)
    · exact ⟨e, List.mem_append.2 (.inl h1), h2⟩
    · exact ⟨e, List.mem_append.2 (.inr h1), h2⟩
theorem mt_opt (a : Ex) (w : List Kd) : Mt (.mk 7 false [] [] [a]) w ↔ Mt a w ∨ w = [] := by
  constructor
  · intro h
    cases h with
    | opt0 => exact .inr rfl
    | opt1 _ _ _ _ _ h => exact .inl h
  · rintro (h | rfl)
    · exact .opt1 _ _ _ _ _ h
    · exact .opt0 _ _ _ _
theorem star_cut {x : Ex} {w : List Kd} (h : Mt x w) : ∀ a, x = .mk 5 false [] [] [a] → w = [] ∨ ∃ u v, u ≠ [] ∧ w = u ++ v ∧ Mt a u ∧ Mt (.mk 5 false [] [] [a]) v := by
  induction h with
  | star0 => exact fun _ _ => .inl rfl
  | star1 nt N P e u v h1 h2 _ ih =>
    intro a e1
    cases e1
    by_cases hu : u = []
    · subst hu
      exact ih e rfl
    · exact .inr ⟨u, v, hu, rfl, h1, h2⟩
  | none => intro a e; cases e
  | set => intro a e; cases e
  | seq0 => intro a e; cases e
  | seq1 => intro a e; cases e
  | alt => intro a e; cases e
  | plus => intro a e; cases e
  | opt0 => intro a e; cases e
  | opt1 => intro a e; cases e
theorem mt_star (a : Ex) (w : List Kd) : Mt (.mk 5 false [] [] [a]) w ↔ w = [] ∨ ∃ i, 1 ≤ i ∧ i ≤ w.length ∧ Mt a (w.take i) ∧ Mt (.mk 5 false [] [] [a]) (w.drop i) := by
  constructor
  · intro h
    rcases star_cut h a rfl with h | ⟨u, v, hu, rfl, h1, h2⟩
    · exact .inl h
    · exact .inr ⟨u.length, List.length_pos_iff.2 hu, by simp, by simpa using h1, by simpa using h2⟩
  · rintro (rfl | ⟨i, _, _, h1, h2⟩)
    · exact .star0 _ _ _ _
    · rw [← List.take_append_drop i w]
      exact .star1 _ _ _ _ _ _ h1 h2
theorem mt_plus (a : Ex) (w : List Kd) : Mt (.mk 6 false [] [] [a]) w ↔ ∃ i, i ≤ w.length ∧ Mt a (w.take i) ∧ Mt (.mk 5 false [] [] [a]) (w.drop i) := by
  constructor
  · intro h
    cases h with
    | plus _ _ _ _ u v h1 h2 => exact ⟨u.length, by simp, by simpa using h1, by simpa using h2⟩
  · rintro ⟨i, _, h1, h2⟩
    rw [← List.take_append_drop i w]
    exact .plus _ _ _ _ _ _ h1 h2
theorem mt_set (nt : Bool) (N : List ByteArray) (P : List (Int × Int)) (L : List Ex) (w : List Kd) : Mt (.mk 2 nt N P L) w ↔ ∃ u, w = [u] ∧ holdsF nt N P u.1 u.2 = true := by
  constructor
  · intro h
    cases h with
    | set _ _ _ _ u h => exact ⟨u, rfl, h⟩
  · rintro ⟨u, rfl, h⟩
    exact .set _ _ _ _ _ h
end Go.Proofs.YtolnoojbcbdfiaaDoor
namespace Go.Proofs.YtolnoojbcbdfiaaDoor
open Go.RowKit Go.Shelf
mutual
/-- An expression turned round. -/
def revE : Ex → Ex
  | .mk k nt N P L => .mk k nt N P (if k = 3 then (revL L).reverse else revL L)
def revL : List Ex → List Ex
  | [] => []
  | e :: L => revE e :: revL L
end
theorem revL_map (L : List Ex) : revL L = L.map revE := by
  induction L with
  | nil => rfl
  | cons e L ih => rw [revL, ih, List.map_cons]
theorem revL_len (L : List Ex) : (revL L).length = L.length := by rw [revL_map, List.length_map]
theorem revL_get (L : List Ex) (i : Nat) (h : i < L.length) : (revL L)[i]'(by rw [revL_len]; exact h) = revE L[i] := by
  simp only [revL_map, List.getElem_map]
theorem revE_kind (e : Ex) : (revE e).kind = e.kind := by
  cases e with
  | mk k nt N P L => rfl
mutual
theorem rev_rev : ∀ (e : Ex), revE (revE e) = e
  | .mk k nt N P L => by
    have h := rev_revL L
    rw [revE, revE]
    by_cases hk : k = 3
    · rw [if_pos hk, if_pos hk, revL_map (revL L).reverse, ← List.map_reverse, List.reverse_reverse, ← revL_map, h]
    · rw [if_neg hk, if_neg hk, h]
theorem rev_revL : ∀ (L : List Ex), revL (revL L) = L
  | [] => rfl
  | e :: L => by rw [revL, revL, rev_rev e, rev_revL L]
end
theorem sizes_reverse (L : List Ex) : Ex.size.sizes L.reverse = Ex.size.sizes L := by
  induction L with
  | nil => rfl
  | cons e L ih =>
    rw [List.reverse_cons, sizes_app, ih, sizes_cons, sizes_cons]
    show _ + (e.size + 0) = _
    omega
mutual
theorem rev_size : ∀ (e : Ex), (revE e).size = e.size
  | .mk k nt N P L => by
    have h := rev_sizes L
    rw [revE, Ex.size_mk, Ex.size_mk]
    by_cases hk : k = 3
    · rw [if_pos hk, sizes_reverse, h]
    · rw [if_neg hk, h]
theorem rev_sizes : ∀ (L : List Ex), Ex.size.sizes (revL L) = Ex.size.sizes L
  | [] => rfl
  | e :: L => by rw [revL, sizes_cons, sizes_cons, rev_size e, rev_sizes L]
end
theorem hasK_rev (L : List Ex) (q : Int) : hasK (revL L) q = hasK L q := by
  unfold hasK
  rw [revL_map, List.any_map]
  congr 1
  funext e
  simp [revE_kind]
theorem hasK_reverse (L : List Ex) (q : Int) : hasK L.reverse q = hasK L q := by
  unfold hasK
  rw [List.any_reverse]
theorem form_rev (k : Int) (L : List Ex) : formF k (if k = 3 then (revL L).reverse else revL L) = formF k L := by
  unfold formF
  by_cases hk : k = 3
  · rw [if_pos hk, if_pos hk, if_pos hk, hasK_reverse, hasK_reverse, hasK_rev, hasK_rev, List.length_reverse, revL_len]
  · rw [if_neg hk, if_neg hk, if_neg hk, hasK_rev, revL_len]
theorem wf_rev : ∀ (d : Nat) (e : Ex), WfE d e → WfE d (revE e)
  | 0, _, h => h.elim
  | d + 1, .mk k nt N P L, h => by
    rw [revE]
    have hl : (if k = 3 then (revL L).reverse else revL L).length = L.length := by
      by_cases hk : k = 3
      · rw [if_pos hk, List.length_reverse, revL_len]
      · rw [if_neg hk, revL_len]
    refine ⟨by rw [hl]; exact h.1, by rw [form_rev]; exact h.2.1, h.2.2.1, fun p hp => ?_⟩
    have hp2 : p ∈ L.map revE := by
      rw [← revL_map]
      by_cases hk : k = 3
      · rw [if_pos hk] at hp
        exact List.mem_reverse.1 hp
      · rw [if_neg hk] at hp
        exact hp
    obtain ⟨x, hx, rfl⟩ := List.mem_map.1 hp2
    exact wf_rev d x (h.2.2.2 x hx)
/-- Once more at the end of a row. -/
theorem star_put {x : Ex} {u : List Kd} (h : Mt x u) : ∀ (nt : Bool) (N : List ByteArray) (P : List (Int × Int)) (e : Ex) (v : List Kd), x = .mk 5 nt N P [e] → Mt e v → Mt (.mk 5 nt N P [e]) (u ++ v) := by
  induction h with
  | star0 nt N P L =>
    intro nt' N' P' e v q hv
    cases q
    have := Mt.star1 nt N P e v [] hv (.star0 nt N P [e])
    rwa [List.append_nil] at this
  | star1 nt N P e u1 u2 h1 h2 _ ih =>
    intro nt' N' P' e' v q hv
    cases q
    rw [List.append_assoc]
    exact .star1 nt N P e u1 _ h1 (ih nt N P e v rfl hv)
  | none => intro _ _ _ _ _ q; cases q
  | set => intro _ _ _ _ _ q; cases q
  | seq0 => intro _ _ _ _ _ q; cases q
  | seq1 => intro _ _ _ _ _ q; cases q
  | alt => intro _ _ _ _ _ q; cases q
  | plus => intro _ _ _ _ _ q; cases q
  | opt0 => intro _ _ _ _ _ q; cases q
  | opt1 => intro _ _ _ _ _ q; cases q
theorem star_snoc {nt : Bool} {N : List ByteArray} {P : List (Int × Int)} {L : List Ex} {e : Ex} {u v : List Kd} (h : Mt (.mk 5 nt N P L) u) (hL : L = [e]) (hv : Mt e v) : Mt (.mk 5 nt N P L) (u ++ v) := by
  subst hL
  exact star_put h nt N P e v rfl hv
theorem plus_snoc {nt : Bool} {N : List ByteArray} {P : List (Int × Int)} {e : Ex} {u v : List Kd} (h : Mt (.mk 5 nt N P [e]) u) (hv : Mt e v) : Mt (.mk 6 nt N P [e]) (u ++ v) := by
  have key : ∀ (x : Ex) (u : List Kd), Mt x u → x = .mk 5 nt N P [e] → Mt (.mk 6 nt N P [e]) (u ++ v) := fun x u h q => by
    cases h with
    | star0 nt N P L =>
      cases q
      have := Mt.plus nt N P e v [] hv (.star0 nt N P [e])
      rwa [List.append_nil] at this
    | star1 nt N P e u1 u2 h1 h2 =>
      cases q
      rw [List.append_assoc]
      exact .plus nt N P e u1 _ h1 (star_put h2 nt N P e v rfl hv)
    | none => cases q
    | set => cases q
    | seq0 => cases q
    | seq1 => cases q
    | alt => cases q
    | plus => cases q
    | opt0 => cases q
    | opt1 => cases q
  exact key _ u h rfl
/-- What is met, turned round. -/
theorem mt_rev {e : Ex} {w : List Kd} (h : Mt e w) : Mt (revE e) w.reverse := by
  induction h with
  | none nt N P L => rw [revE]; exact .none nt N P _
  | set nt N P L u hu => rw [revE]; exact .set nt N P _ u hu
  | seq0 nt N P => rw [revE]; exact .seq0 nt N P
  | seq1 nt N P e L u v h1 h2 ih1 ih2 =>
    rw [revE, if_pos rfl] at ih2 ⊢
    rw [revL, List.reverse_cons, List.reverse_append]
    exact (mt_seq_app nt N P _ _ _).2 ⟨_, _, rfl, ih2, (mt_seq_one nt N P _ _).2 ih1⟩
  | alt nt N P e L u hm h1 ih =>
    rw [revE, if_neg (by decide)]
    exact .alt nt N P (revE e) _ _ (by rw [revL_map]; exact List.mem_map_of_mem hm) ih
  | star0 nt N P L => rw [revE]; exact .star0 nt N P _
  | star1 nt N P e u v h1 h2 ih1 ih2 =>
    rw [revE, if_neg (by decide)] at ih2 ⊢
    rw [List.reverse_append]
    exact star_snoc ih2 rfl ih1
  | plus nt N P e u v h1 h2 ih1 ih2 =>
    rw [revE, if_neg (by decide)] at ih2 ⊢
    rw [List.reverse_append]
    exact plus_snoc ih2 ih1
  | opt0 nt N P L => rw [revE]; exact .opt0 nt N P _
  | opt1 nt N P e u h1 ih => rw [revE, if_neg (by decide)]; exact .opt1 nt N P _ _ ih
theorem mt_rev_iff (e : Ex) (w : List Kd) : Mt (revE e) w.reverse ↔ Mt e w :=
  ⟨fun h => by have := mt_rev h; rwa [rev_rev, List.reverse_reverse] at this, mt_rev⟩
end Go.Proofs.YtolnoojbcbdfiaaDoor
namespace Go.Proofs.YtolnoojbcbdfiaaDoor
open Go.RowKit Go.Shelf
def evC (x : EV) : List Value := [x.k, x.t, x.n, x.p, x.r]
theorem flatE (xs : List EV) : ∀ (i j : Nat) (h : i < xs.length), j < 5 → (xs.flatMap evC)[i * 5 + j]? = (evC xs[i])[j]? := by
  induction xs with
  | nil => intro i j h; exact absurd h (Nat.not_lt_zero _)
  | cons g xs ih =>
    intro i j h hj
    rw [List.flatMap_cons]
    cases i with
    | zero =>
      rw [Nat.zero_mul, Nat.zero_add, List.getElem?_append_left (by simpa [evC] using hj)]
      rfl
    | succ i =>
      rw [List.getElem?_append_right (by simp [evC]; omega)]
      rw [show (i + 1) * 5 + j - (evC g).length = i * 5 + j by simp [evC]; omega]
      exact ih i j (by simpa using h) hj
/-- A list of expressions in a row of its own; the parts lie elsewhere. -/
structure PE (W : World) (lo : Nat) (Q : Nat → Prop) (v : Value) (L : List Ex) (xs : List EV) : Prop where
  len : xs.length = L.length
  own : W.ownsRow lo 28 5 v L.length (xs.flatMap evC)
  is : ∀ i (h : i < L.length) (h' : i < xs.length), ExIs W (fun b => Q b ∧ v.ownBlock ≠ some b) L[i] xs[i]
theorem PE.nil (W : World) (lo : Nat) (Q : Nat → Prop) : PE W lo Q (.slice none 0 0) [] [] := ⟨rfl, World.ownsRow_nil _ _ _ _, fun _ h => absurd h (Nat.not_lt_zero _)⟩
theorem PE.past {W W' : World} {lo : Nat} {Q : Nat → Prop} {v : Value} {L : List Ex} {xs : List EV} (h : PE W lo Q v L xs) (k : Below W.heap.size W W') : PE W' lo Q v L xs :=
  ⟨h.len, own_blk h.own (fun g hg => k.block g (World.ownsRow.lt h.own g hg).2), fun i h1 h2 => (h.is i h1 h2).past k⟩
/-- A row that grows, maybe into another block; all other blocks stay. -/
structure Gr (W w' : World) (v v' : Value) : Prop where
  grow : W.grownBy w' v.ownBlock
  at' : ∀ q, v'.ownBlock = some q → v.ownBlock = some q ∨ W.heap.size ≤ q
theorem grown_trans {a b c : World} {r r' : Option Nat} (h : a.grownBy b r) (k : b.grownBy c r') (hr : ∀ q, r' = some q → r = some q ∨ a.heap.size ≤ q) : a.grownBy c r :=
  ⟨k.os.trans h.os, k.tape.trans h.tape, k.output.trans h.output, Nat.le_trans h.size k.size, fun i hi hn => (k.block i (Nat.lt_of_lt_of_le hi h.size) (fun e => by
    rcases hr i e.symm with q | q
    · exact hn q.symm
    · omega)).trans (h.block i hi hn)⟩
theorem Gr.of_below {a b : World} (h : Below a.heap.size a b) (v : Value) : Gr a b v v := ⟨⟨h.os, h.tape, h.output, h.size, fun i hi _ => h.block i hi⟩, fun _ e => .inl e⟩
theorem Gr.refl (a : World) (v : Value) : Gr a a v v := Gr.of_below (Below.refl _ _) v
theorem Gr.trans {a b c : World} {v v1 v2 : Value} (h : Gr a b v v1) (k : Gr b c v1 v2) : Gr a c v v2 :=
  ⟨grown_trans h.grow k.grow h.at', fun q e => by
    rcases k.at' q e with q1 | q1
    · exact h.at' q q1
    · exact .inr (Nat.le_trans h.grow.size q1)⟩
theorem Gr.append {a b c : World} {v v2 : Value} (h : Below a.heap.size a b) (hg : b.grownBy c v.ownBlock) (hat : v2.ownBlock = v.ownBlock ∨ v2.ownBlock = some b.heap.size) : Gr a c v v2 :=
  (Gr.of_below h v).trans ⟨hg, fun q e => by
    rcases hat with q1 | q1
    · exact .inl (q1 ▸ e)
    · rw [q1] at e
      cases e
      exact .inr (Nat.le_refl _)⟩
theorem Gr.below {B : Nat} {w a b : World} {v v' : Value} (h : Gr a b v v') (hb : Below B w a) (hB : B ≤ a.heap.size) (hv : ∀ q, v.ownBlock = some q → B ≤ q) : Below B w b := hb.grown h.grow hB hv
theorem ExIs.grow {W w4 : World} {Q : Nat → Prop} {v v4 : Value} {e : Ex} {x : EV} (h : ExIs W (fun b => Q b ∧ v.ownBlock ≠ some b) e x) (g : Gr W w4 v v4) : ExIs w4 (fun b => Q b ∧ v4.ownBlock ≠ some b) e x := by
  have h1 : ExIs W (fun b => (Q b ∧ v.ownBlock ≠ some b) ∧ v4.ownBlock ≠ some b) e x := h.mono (fun b hl hq => ⟨hq, fun e => by
    rcases g.at' b e with q | q
    · exact hq.2 q
    · omega⟩)
  have h2 := h1.keeps (w' := w4) ⟨g.grow.size, fun b o hq hl => World.cell?_of_block (w := W) (g.grow.block b hl (fun e => hq.1.2 e.symm))⟩
  exact h2.mono (fun b _ hq => ⟨hq.1.1, hq.2⟩)
theorem PE.snoc {W w4 : World} {lo : Nat} {Q : Nat → Prop} {v v4 : Value} {L : List Ex} {xs : List EV} {e : Ex} {x : EV} (h : PE W lo Q v L xs) (hx : ExIs W (fun b => Q b ∧ v.ownBlock ≠ some b) e x) (g : Gr W w4 v v4)
    (ho : w4.ownsRow lo 28 5 v4 (L.length + 1) (xs.flatMap evC ++ evC x)) : PE w4 lo Q v4 (L ++ [e]) (xs ++ [x]) := by
  refine ⟨by simp [h.len], ?_, fun k hk hk' => ?_⟩
  · rw [List.length_append, List.length_singleton, List.flatMap_append, List.flatMap_singleton]; exact ho
  · simp only [List.length_append, List.length_singleton] at hk
    rcases Nat.lt_or_ge k L.length with hl | hl
    · have hl2 : k < xs.length := by rw [h.len]; exact hl
      simp only [List.getElem_append_left hl, List.getElem_append_left hl2]
      exact (h.is k hl hl2).grow g
    · have : k = L.length := by omega
      subst this
      have hq : ∀ (hx : L.length < (xs ++ [x]).length), (xs ++ [x])[L.length]'hx = x := fun hx => by
        rw [List.getElem_append_right (by rw [h.len]; exact Nat.le_refl _)]; simp [h.len]
      rw [hq]
      simp only [List.getElem_concat_length]
      exact hx.grow g
theorem PE.form {W : World} {lo : Nat} {Q : Nat → Prop} {v : Value} {L : List Ex} {xs : List EV} (h : PE W lo Q v L xs) : ∃ a c, v = .slice a L.length c := by
  rcases h.own.2 with ⟨rfl, e⟩ | ⟨g, cap', cur, rfl, _⟩
  · exact ⟨none, 0, by rw [e]⟩
  · exact ⟨_, _, rfl⟩
/-- Where the cells of a part lie. -/
theorem PE.cells {W : World} {lo : Nat} {Q : Nat → Prop} {v : Value} {L : List Ex} {xs : List EV} (h : PE W lo Q v L xs) (i : Nat) (hi : i < L.length) (hi' : i < xs.length) : ∃ g c, v = .slice (some ⟨g, 0, none⟩) L.length c ∧ lo ≤ g ∧ Five W g (i * 5) xs[i] := by
  have ho := h.own
  rcases ho.2 with ⟨rfl, hn⟩ | ⟨g, cap, cur, rfl, hg, hrow, _⟩
  · omega
  · refine ⟨g, cap, rfl, hg, ?_⟩
    have hc : ∀ j, j < 5 → W.cell? ⟨g, i * 5 + j, none⟩ = (evC xs[i])[j]? := fun j hj => by
      have h1 := World.ownsRow.cellAt ho (i * 5 + j) (by have : i * 5 + 5 ≤ L.length * 5 := by { have := Nat.mul_le_mul_right 5 (Nat.succ_le_of_lt hi); omega }; omega)
      rw [h1, flatE xs i j hi' hj]
    exact ⟨hc 0 (by omega), hc 1 (by omega), hc 2 (by omega), hc 3 (by omega), hc 4 (by omega)⟩
theorem PE.ex {W : World} {lo : Nat} {Q : Nat → Prop} {v : Value} {L : List Ex} {xs : List EV} (h : PE W lo Q v L xs) (hQ : ∀ g, lo ≤ g → Q g) (hl : L.length ≤ 1000000000) (k : Int) : ∃ c cc, v = .slice c L.length cc ∧ ExIs W Q (.mk k false [] [] L) ⟨.int .i64 k, .bool false, .slice none 0 0, .slice none 0 0, .slice c L.length cc⟩ := by
  obtain ⟨a, c, hv⟩ := h.form
  refine ⟨a, c, hv, .mk k false [] [] L none 0 none 0 a c (fun i => xs.getD i ⟨.nilIface, .nilIface, .nilIface, .nilIface, .nilIface⟩) (SQ.nil _ _ _) (RQ.nil _ _ _) (by simp) (by simp) hl (fun i hi => ?_) (fun i hi => ?_)⟩
  · have hi' : i < xs.length := by rw [h.len]; exact hi
    obtain ⟨g, c', e, hg, h5⟩ := h.cells i hi hi'
    rw [hv] at e
    cases e
    exact ⟨g, 0, rfl, hQ g hg, by rw [List.getD_eq_getElem?_getD, List.getElem?_eq_getElem hi', Nat.zero_add]; exact h5⟩
  · have hi' : i < xs.length := by rw [h.len]; exact hi
    rw [List.getD_eq_getElem?_getD, List.getElem?_eq_getElem hi']
    exact (h.is i hi hi').mono (fun g _ hq => hq.1)
/-- What glued leaves. -/
def GluedR (W : World) (lo : Nat) (Q : Nat → Prop) (v : Value) (L : List Ex) (r : Ending) (w' : World) : Prop := ∃ v' xs, r = .returned v' ∧ PE w' lo Q v' L xs ∧ Gr W w' v v'
end Go.Proofs.YtolnoojbcbdfiaaDoor
namespace Go.Proofs.YtolnoojbcbdfiaaDoor
open Go.RowKit Go.Shelf
theorem infoE : (Tryd.prog.info? 28).map (fun i => (i.zero, i.size, i.bytes)) = some (some (.agg #[.int .i64 0, .bool false, .slice none 0 0, .slice none 0 0, .slice none 0 0]), 5, 88) := by kernel_rfl
theorem rowE {W : World} {X : Nat} {t : TypeId} {a b c d e : Value} (h : W.heap[X]? = some (.cells #[a, b, c, d, e] t (0, 0))) : (W.cell? ⟨X, 0, none⟩ = some a ∧ W.cell? ⟨X, 1, none⟩ = some b ∧ W.cell? ⟨X, 2, none⟩ = some c ∧ W.cell? ⟨X, 3, none⟩ = some d ∧ W.cell? ⟨X, 4, none⟩ = some e) ∧ (W.frozen? ⟨X, 0, none⟩ = false ∧ W.frozen? ⟨X, 1, none⟩ = false ∧ W.frozen? ⟨X, 2, none⟩ = false ∧ W.frozen? ⟨X, 3, none⟩ = false ∧ W.frozen? ⟨X, 4, none⟩ = false) :=
  ⟨⟨by rw [cell_of_row _ _ _ _ _ _ h]; rfl, by rw [cell_of_row _ _ _ _ _ _ h]; rfl, by rw [cell_of_row _ _ _ _ _ _ h]; rfl, by rw [cell_of_row _ _ _ _ _ _ h]; rfl, by rw [cell_of_row _ _ _ _ _ _ h]; rfl⟩,
   by simp [World.frozen?, h], by simp [World.frozen?, h], by simp [World.frozen?, h], by simp [World.frozen?, h], by simp [World.frozen?, h]⟩
theorem cellE_new (w : World) (a b c d e : Value) (t : TypeId) : ∀ j u, [a, b, c, d, e][j]? = some u → (w.alloc (.cells #[a, b, c, d, e] t)).cell? ((⟨w.heap.size, 0, none⟩ : Addr).add j) = some u := by
  intro j u h
  rw [Addr.add_mid, cell_of_row _ _ _ _ _ _ (heap_alloc_new w _)]
  simpa using h
theorem ExIs.one {w : World} {Q : Nat → Prop} {e : Ex} {x : EV} (h : ExIs w Q e x) : ∀ u, u ∈ evC x → u.oneCell' = true := by
  cases h with
  | mk k nt N P L a ca b cb c cc vs hN hP lN lP lL hL hR =>
    intro u hu
    unfold evC at hu
    simp only [List.mem_cons, List.not_mem_nil, or_false] at hu
    rcases hu with rfl | rfl | rfl | rfl | rfl <;> rfl
set_option maxRecDepth 10000 in
set_option maxHeartbeats 1600000 in
theorem glued_any (k : Int) (L : List Ex) (xs : List EV) (v : Value) (e : Ex) (x : EV) (Q : Nat → Prop) (lo : Nat) (W : World) (hP : PE W lo Q v L xs) (hx : ExIs W (fun b => Q b ∧ v.ownBlock ≠ some b) e x) (hlo : lo ≤ W.heap.size) (hlen : L.length + e.parts.length ≤ 1000000) :
    Calls Tryd.prog 8 #[v, x.v, .int .i64 k] W fun r w' => GluedR W lo Q v (L ++ gl k e) r w' := by
  obtain ⟨i0, hi, hz0, hz1, hz2⟩ := info_parts infoE
  obtain ⟨q, nt, N, P, M⟩ := e
  have hM : L.length + M.length ≤ 1000000 := hlen
  clear hlen
  obtain ⟨a, ca, b, cb, c, cc, rfl, _, _, _, _, _, vs, hL, hR⟩ := hx.shape
  have HX := hid0 hx
  have HL := hid0 hL
  have HR := hid0 hR
  have HP := hid0 hP
  obtain ⟨av, cv, hv⟩ := hP.form
  subst hv
  obtain ⟨W1, hW1⟩ : ∃ W1, W.alloc (.cells #[.int .i64 q, .bool nt, .slice a N.length ca, .slice b P.length cb, .slice c M.length cc] 28) = W1 := ⟨_, rfl⟩
  have HB1 := hid0 (show Below W.heap.size W W1 by rw [← hW1]; exact (Below.refl _ _).alloc (Nat.le_refl _) _)
  have HS1 := hid0 (show W1.heap.size = W.heap.size + 1 by rw [← hW1]; simp)
  have HR1 := hid0 (show W1.heap[W.heap.size]? = some (.cells #[.int .i64 q, .bool nt, .slice a N.length ca, .slice b P.length cb, .slice c M.length cc] 28 (0, 0)) by rw [← hW1]; exact heap_alloc_new W _)
  have HO1 := hid0 (fun qq (h : (Value.slice av L.length cv).ownBlock = some qq) => (World.ownsRow.lt hP.own qq h).2)
  obtain ⟨⟨x0, x1, x2, x3, x4⟩, _⟩ := rowE HR1.out
  clear hx hL hR hP
  unfold EV.v
  simp only []
  by_cases hq : q = k
  · subst hq
    have HGL : Hid (gl q (.mk q nt N P M) = M) := hid0 (by unfold gl; exact if_pos rfl)
    go_enter Tryd.func8, Tryd.ntmps8
    go_wp2
    clear hW1 x0 x1 x2 x3 x4
    go_loopw [0, 7] (fun v' i wr => ∃ (j : Nat) (ys : List EV), j ≤ M.length ∧ i = .int .i64 (j : Int) ∧ Hid (PE wr lo Q v' (L ++ M.take j) ys) ∧ Hid (Gr W1 wr (.slice av L.length cv) v')) (fun _ i _ => M.length - (intOf i).toNat)
    case atStart => exact ⟨0, xs, Nat.zero_le _, rfl, hid0 (by rw [List.take_zero, List.append_nil]; exact HP.out.past HB1.out), hid0 (Gr.refl _ _)⟩
    case round =>
      obtain ⟨j, ys, hj, rfl, HPj, HG⟩ := hrel
      have HRw := hid0 ((HG.out.grow.block W.heap.size (by have := HS1.out; omega) (fun h => by have := HO1.out _ h.symm; omega)).trans HR1.out)
      obtain ⟨⟨x0, x1, x2, x3, x4⟩, _⟩ := rowE HRw.out
      by_cases hlt : j < M.length
      · have hjI : (j : Int) < (M.length : Int) := by omega
        have hjI0 : (0 : Int) ≤ (j : Int) := by omega
        have HXj := hid0 ((HX.out.past HB1.out).grow HG.out)
        obtain ⟨a', ca', b', cb', c', cc', e', _, _, _, _, _, vs', hL', hR'⟩ := HXj.out.shape
        cases e'
        obtain ⟨g, off, rfl, hgq, h5⟩ := hL' j hlt
        have HRj := hid0 (hR' j hlt)
        have HTK : Hid (L ++ M.take (j + 1) = (L ++ M.take j) ++ [M[j]]) := hid0 (by rw [List.take_add_one, List.getElem?_eq_getElem hlt, List.append_assoc]; rfl)
        have HTL : Hid ((L ++ M.take j).length = L.length + j) := hid0 (by rw [List.length_append, List.length_take]; omega)
        have hvs : ∃ aw cw, u0 = .slice aw (L.length + j) cw := by
          obtain ⟨aw, cw, e⟩ := HPj.out.form
          rw [HTL.out] at e
          exact ⟨aw, cw, e⟩
        obtain ⟨aw, cw, rfl⟩ := hvs
        obtain ⟨y0, y1, y2, y3, y4⟩ := h5
        have HOne := hid0 HRj.out.one
        generalize vs' j = y at *
        generalize M[j] = m at *
        obtain ⟨yk, yt, yn, yp, yr⟩ := y
        have HOk : Hid (wr.ownsRow lo 28 5 (.slice aw (L.length + j) cw) (L.length + j) (ys.flatMap evC)) := hid0 (by have ho := HPj.out.own; rw [HTL.out] at ho; exact ho)
        have hsz : lo ≤ wr.heap.size := by have := HG.out.grow.size; have := HS1.out; omega
        simp only [] at y0 y1 y2 y3 y4
        clear hL' hR' hgq
        go_wp2_with (first
          | (at_builtin; go_loud ((
               refine wpList_append_own_at _ (by rfl) _ _ 26 (by rfl) lo 28 i0 (.agg #[.int .i64 0, .bool false, .slice none 0 0, .slice none 0 0, .slice none 0 0]) 5 88 Tryd.underlying26 hi hz0 hz1 hz2 rfl (by decide) (.slice aw (L.length + j) cw) (L.length + j) (ys.flatMap evC) (by rfl) (World.ownsRow.alloc HOk.out _) ⟨wr.heap.size, 0, none⟩ 1 1 (evC ⟨yk, yt, yn, yp, yr⟩) (by rfl) (by rfl) (cellE_new wr _ _ _ _ _ _) HOne.out (by unfold maxLen; omega) (by omega) (by simp; omega) ?_
               intro v4 w4 hown4 hgrow4 _ hat4
               have HG4 := hid0 (Gr.append ((Below.refl _ wr).alloc (Nat.le_refl _) _) hgrow4 hat4)
               have HP4 := hid0 (PE.snoc HPj.out HRj.out HG4.out (by rw [HTL.out]; exact hown4))
               clear hown4 hgrow4 hat4)))
          | fail)
        go_roundw
        case rel => exact ⟨j + 1, ys ++ [⟨yk, yt, yn, yp, yr⟩], by omega, by go_num, hid0 (by rw [HTK.out]; exact HP4.out), hid0 (HG.out.trans HG4.out)⟩
        case measure => simp [intOf]; omega
      · have hjI : ¬ (j : Int) < (M.length : Int) := by omega
        have HE : Hid (PE wr lo Q u0 (L ++ M) ys) := hid0 (by have h := HPj.out; rw [List.take_of_length_le (by omega)] at h; exact h)
        go_wp2
        go_ret
        exact ⟨u0, ys, rfl, by rw [HGL.out]; exact HE.out, (Gr.of_below HB1.out _).trans HG.out⟩
  · by_cases h31 : k = 3 ∧ q = 1
    · obtain ⟨rfl, rfl⟩ := h31
      go_enter Tryd.func8, Tryd.ntmps8
      go_wp2
      go_ret
      exact ⟨_, xs, rfl, by rw [show gl 3 (.mk 1 nt N P M) = [] from rfl, List.append_nil]; exact HP.out.past HB1.out, Gr.of_below HB1.out _⟩
    · have HGL : Hid (gl k (.mk q nt N P M) = [.mk q nt N P M]) := hid0 (by unfold gl; rw [if_neg (show ¬ Ex.kind (.mk q nt N P M) = k from hq), if_neg (show ¬ (k = 3 ∧ Ex.kind (.mk q nt N P M) = 1) from h31)])
      have HOk : Hid (W1.ownsRow lo 28 5 (.slice av L.length cv) L.length (xs.flatMap evC)) := hid0 (HP.out.past HB1.out).own
      have HOne := hid0 HX.out.one
      have hsz : lo ≤ W1.heap.size := by have := HS1.out; omega
      by_cases hk3 : k = 3
      · have hq1 : ¬ q = 1 := fun h => h31 ⟨hk3, h⟩
        subst hk3
        go_enter Tryd.func8, Tryd.ntmps8
        go_wp2_with (first
          | (at_builtin; go_loud ((
               refine wpList_append_own_at _ (by rfl) _ _ 26 (by rfl) lo 28 i0 (.agg #[.int .i64 0, .bool false, .slice none 0 0, .slice none 0 0, .slice none 0 0]) 5 88 Tryd.underlying26 hi hz0 hz1 hz2 rfl (by decide) (.slice av L.length cv) L.length (xs.flatMap evC) (by rfl) (World.ownsRow.alloc HOk.out _) ⟨W1.heap.size, 0, none⟩ 1 1 (evC ⟨.int .i64 q, .bool nt, .slice a N.length ca, .slice b P.length cb, .slice c M.length cc⟩) (by rfl) (by rfl) (cellE_new W1 _ _ _ _ _ _) HOne.out (by unfold maxLen; omega) (by omega) (by simp; omega) ?_
               intro v4 w4 hown4 hgrow4 _ hat4
               have HG4 := hid0 (Gr.append ((Below.refl _ W1).alloc (Nat.le_refl _) _) hgrow4 hat4)
               have HP4 := hid0 (PE.snoc (HP.out.past HB1.out) (HX.out.past HB1.out) HG4.out hown4)
               clear hown4 hgrow4 hat4)))
          | fail)
        go_ret
        exact ⟨_, _, rfl, by rw [HGL.out]; exact HP4.out, (Gr.of_below HB1.out _).trans HG4.out⟩
      · go_enter Tryd.func8, Tryd.ntmps8
        go_wp2_with (first
          | (at_builtin; go_loud ((
               refine wpList_append_own_at _ (by rfl) _ _ 26 (by rfl) lo 28 i0 (.agg #[.int .i64 0, .bool false, .slice none 0 0, .slice none 0 0, .slice none 0 0]) 5 88 Tryd.underlying26 hi hz0 hz1 hz2 rfl (by decide) (.slice av L.length cv) L.length (xs.flatMap evC) (by rfl) (World.ownsRow.alloc HOk.out _) ⟨W1.heap.size, 0, none⟩ 1 1 (evC ⟨.int .i64 q, .bool nt, .slice a N.length ca, .slice b P.length cb, .slice c M.length cc⟩) (by rfl) (by rfl) (cellE_new W1 _ _ _ _ _ _) HOne.out (by unfold maxLen; omega) (by omega) (by simp; omega) ?_
               intro v4 w4 hown4 hgrow4 _ hat4
               have HG4 := hid0 (Gr.append ((Below.refl _ W1).alloc (Nat.le_refl _) _) hgrow4 hat4)
               have HP4 := hid0 (PE.snoc (HP.out.past HB1.out) (HX.out.past HB1.out) HG4.out hown4)
               clear hown4 hgrow4 hat4)))
          | fail)
        go_ret
        exact ⟨_, _, rfl, by rw [HGL.out]; exact HP4.out, (Gr.of_below HB1.out _).trans HG4.out⟩
end Go.Proofs.YtolnoojbcbdfiaaDoor
namespace Go.Proofs.YtolnoojbcbdfiaaDoor
open Go.RowKit Go.Shelf
/-- An expression in memory, its lists of any length. -/
inductive ExIn (w : World) : Ex → EV → Prop
  | mk (k : Int) (nt : Bool) (N : List ByteArray) (P : List (Int × Int)) (L : List Ex) (a : Option Addr) (ca : Nat) (b : Option Addr) (cb : Nat) (c : Option Addr) (cc : Nat) (vs : Nat → EV)
    (hN : SA w a N) (hP : RA w b P) (hL : ∀ i, i < L.length → ∃ g off, c = some ⟨g, off, none⟩ ∧ Five w g (off + i * 5) (vs i)) (hR : ∀ i (h : i < L.length), ExIn w L[i] (vs i)) :
    ExIn w (.mk k nt N P L) ⟨.int .i64 k, .bool nt, .slice a N.length ca, .slice b P.length cb, .slice c L.length cc⟩
theorem Five.past {w w' : World} {g o : Nat} {x : EV} (h : Five w g o x) (hb : Below w.heap.size w w') : Five w' g o x :=
  Five.keeps (Q := fun _ => True) h trivial ⟨hb.size, fun g o _ hl => hb.cell (p := ⟨g, o, none⟩) hl⟩
theorem ExIn.past {w w' : World} (hb : Below w.heap.size w w') {e : Ex} {x : EV} (h : ExIn w e x) : ExIn w' e x := by
  induction h with
  | mk k nt N P L a ca b cb c cc vs hN hP hL hR ih =>
    exact .mk k nt N P L a ca b cb c cc vs (hN.below hb) (hP.below hb) (fun i hi => by
      obtain ⟨g, off, e, h5⟩ := hL i hi
      exact ⟨g, off, e, h5.past hb⟩) ih
theorem ExIn.shape {w : World} {k : Int} {nt : Bool} {N : List ByteArray} {P : List (Int × Int)} {L : List Ex} {x : EV} (h : ExIn w (.mk k nt N P L) x) : ∃ a ca b cb c cc, x = ⟨.int .i64 k, .bool nt, .slice a N.length ca, .slice b P.length cb, .slice c L.length cc⟩ ∧ SA w a N ∧ RA w b P ∧
    ∃ vs : Nat → EV, (∀ i, i < L.length → ∃ g off, c = some ⟨g, off, none⟩ ∧ Five w g (off + i * 5) (vs i)) ∧ ∀ i (h : i < L.length), ExIn w L[i] (vs i) := by
  cases h with
  | mk _ _ _ _ _ a ca b cb c cc vs hN hP hL hR => exact ⟨a, ca, b, cb, c, cc, rfl, hN, hP, vs, hL, hR⟩
/-- An expression that is answered, in memory of its own. -/
def ExR (w : World) (t : Ex) (r : Ending) (w' : World) : Prop := ∃ y : EV, r = .returned y.v ∧ ExIs w' (fun g => w.heap.size ≤ g) t y ∧ Below w.heap.size w w'
theorem ExR.shape {w w' : World} {t : Ex} {r : Ending} (h : ExR w t r w') : ∃ k u a m c b n d g l z, r = .returned (.agg #[.int .i64 k, .bool u, .slice a m c, .slice b n d, .slice g l z]) ∧ ExIs w' (fun g => w.heap.size ≤ g) t ⟨.int .i64 k, .bool u, .slice a m c, .slice b n d, .slice g l z⟩ ∧ Below w.heap.size w w' := by
  obtain ⟨y, e, h1, h2⟩ := h
  cases h1 with
  | mk k nt N P L a ca b cb c cc vs hN hP lN lP lL hL hR => exact ⟨k, nt, a, N.length, ca, b, P.length, cb, c, L.length, cc, e, .mk k nt N P L a ca b cb c cc vs hN hP lN lP lL hL hR, h2⟩
/-- A row of five written over. -/
def setE (W : World) (X : Nat) (a b c d e : Value) : World := ((((W.setCell ⟨X, 0, none⟩ a).setCell ⟨X, 1, none⟩ b).setCell ⟨X, 2, none⟩ c).setCell ⟨X, 3, none⟩ d).setCell ⟨X, 4, none⟩ e
theorem setE_row {W : World} {X : Nat} {t : TypeId} {a0 b0 c0 d0 e0 : Value} (h : W.heap[X]? = some (.cells #[a0, b0, c0, d0, e0] t (0, 0))) (a b c d e : Value) : (setE W X a b c d e).heap[X]? = some (.cells #[a, b, c, d, e] t (0, 0)) := by
  unfold setE
  exact heap_setCell_same _ _ 4 _ _ e (heap_setCell_same _ _ 3 _ _ d (heap_setCell_same _ _ 2 _ _ c (heap_setCell_same _ _ 1 _ _ b (heap_setCell_same _ _ 0 _ _ a h))))
theorem setE_below {B : Nat} {w W : World} {X : Nat} (h : Below B w W) (hX : B ≤ X) (a b c d e : Value) : Below B w (setE W X a b c d e) := by
  unfold setE
  exact ((((h.setCell (p := ⟨X, 0, none⟩) hX a).setCell (p := ⟨X, 1, none⟩) hX b).setCell (p := ⟨X, 2, none⟩) hX c).setCell (p := ⟨X, 3, none⟩) hX d).setCell (p := ⟨X, 4, none⟩) hX e
theorem setE_other {W : World} {X k : Nat} (hk : k ≠ X) (a b c d e : Value) : (setE W X a b c d e).heap[k]? = W.heap[k]? := by
  unfold setE
  rw [Below.heap_setCell _ _ _ k hk, Below.heap_setCell _ _ _ k hk, Below.heap_setCell _ _ _ k hk, Below.heap_setCell _ _ _ k hk, Below.heap_setCell _ _ _ k hk]
theorem setE_size (W : World) (X : Nat) (a b c d e : Value) : (setE W X a b c d e).heap.size = W.heap.size := by unfold setE; simp
/-- A row that is written over keeps what lies in other blocks. -/
theorem setE_keeps {W : World} {X : Nat} (a b c d e : Value) : Keeps (fun g => g ≠ X) W (setE W X a b c d e) := by
  have ho : ∀ g, g ≠ X → (setE W X a b c d e).heap[g]? = W.heap[g]? := fun g hg => setE_other hg a b c d e
  have hs : W.heap.size ≤ (setE W X a b c d e).heap.size := by rw [setE_size]; exact Nat.le_refl _
  generalize setE W X a b c d e = V at *
  exact ⟨hs, fun g o hg _ => World.cell?_of_block (w := W) (ho g hg)⟩
/-- An answer is stored. -/
theorem ret_done {w W : World} {X B : Nat} {t : TypeId} {a0 b0 c0 d0 e0 : Value} {e : Ex} {y : EV} (bel : Below w.heap.size w W) (hX : w.heap.size ≤ X) (hr : W.heap[X]? = some (.cells #[a0, b0, c0, d0, e0] t (0, 0))) (hB : X < B) (hy : ExIs W (fun g => B ≤ g) e y) :
    ∃ V, V = setE W X y.k y.t y.n y.p y.r ∧ V.heap[X]? = some (.cells #[y.k, y.t, y.n, y.p, y.r] t (0, 0)) ∧ ExR w e (.returned y.v) V := by
  refine ⟨_, rfl, setE_row hr _ _ _ _ _, y, rfl, ?_, setE_below bel hX _ _ _ _ _⟩
  have h1 := hy.mono (Q' := fun g => g ≠ X ∧ w.heap.size ≤ g) (fun g _ h => ⟨by omega, by omega⟩)
  have hk := setE_keeps (W := W) (X := X) y.k y.t y.n y.p y.r
  exact (h1.keeps ⟨hk.size, fun g o hg hl => hk.cell g o hg.1 hl⟩).mono (fun g _ h => h.2)
/-- The two blocks that tidy begins with. -/
theorem two_rows (w : World) (t : TypeId) (a b c d e a' b' c' d' e' : Value) (W : World) (hW : W = (w.alloc (.cells #[a, b, c, d, e] t)).alloc (.cells #[a', b', c', d', e'] t)) :
    W.heap[w.heap.size]? = some (.cells #[a, b, c, d, e] t (0, 0)) ∧ W.heap[w.heap.size + 1]? = some (.cells #[a', b', c', d', e'] t (0, 0)) ∧ Below w.heap.size w W ∧ W.heap.size = w.heap.size + 2 := by
  obtain ⟨wa, hwa⟩ : ∃ wa, wa = w.alloc (.cells #[a, b, c, d, e] t) := ⟨_, rfl⟩
  have sa : wa.heap.size = w.heap.size + 1 := by rw [hwa]; simp
  have hW2 : W = wa.alloc (.cells #[a', b', c', d', e'] t) := by rw [hW, hwa]
  refine ⟨?_, ?_, ?_, ?_⟩
  · rw [hW2, Below.heap_alloc wa _ _ (by omega), hwa]; exact heap_alloc_new w _
  · rw [hW2, ← sa]; exact heap_alloc_new wa _
  · rw [hW]; exact ((Below.refl _ _).alloc (Nat.le_refl _) _).alloc (by simp) _
  · rw [hW2]; simp [sa]
theorem empty_is (w : World) (Q : Nat → Prop) : ExIs w Q (.mk 1 false [] [] []) ⟨.int .i64 1, .bool false, .slice none 0 0, .slice none 0 0, .slice none 0 0⟩ :=
  .mk 1 false [] [] [] none 0 none 0 none 0 (fun _ => ⟨.nilIface, .nilIface, .nilIface, .nilIface, .nilIface⟩) (SQ.nil _ _ _) (RQ.nil _ _ _) (by simp) (by simp) (by simp) (fun i hi => absurd hi (Nat.not_lt_zero _)) (fun i hi => absurd hi (Nat.not_lt_zero _))
theorem set_is {w : World} {Q : Nat → Prop} {nt : Bool} {N : List ByteArray} {P : List (Int × Int)} {a b : Option Addr} (ca cb : Nat) (hN : SQ w Q a N) (hP : RQ w Q b P) (lN : N.length ≤ 1000000000) (lP : P.length ≤ 1000000000) : ExIs w Q (.mk 2 nt N P []) ⟨.int .i64 2, .bool nt, .slice a N.length ca, .slice b P.length cb, .slice none 0 0⟩ :=
  .mk 2 nt N P [] a ca b cb none 0 (fun _ => ⟨.nilIface, .nilIface, .nilIface, .nilIface, .nilIface⟩) hN hP lN lP (by simp) (fun i hi => absurd hi (Nat.not_lt_zero _)) (fun i hi => absurd hi (Nat.not_lt_zero _))
set_option maxRecDepth 10000 in
set_option maxHeartbeats 1600000 in
theorem tidy_leaf (n : Nat) (k : Int) (nt : Bool) (N : List ByteArray) (P : List (Int × Int)) (m : Nat) (a b c : Option Addr) (ca cb cc : Nat) (w : World) (hN : SA w a N) (hP : RA w b P) (h0 : m = 0 ∨ n = 0) :
    Calls Tryd.prog 5 #[.agg #[.int .i64 k, .bool nt, .slice a N.length ca, .slice b P.length cb, .slice c m cc], .int .i64 (n : Int)] w fun r w' => ExR w (leafE k nt N P) r w' := by
  obtain ⟨W, hW⟩ : ∃ W, (w.alloc (.cells #[.int .i64 k, .bool nt, .slice a N.length ca, .slice b P.length cb, .slice c m cc] 28)).alloc (.cells #[.int .i64 0, .bool false, .slice none 0 0, .slice none 0 0, .slice none 0 0] 28) = W := ⟨_, rfl⟩
  obtain ⟨hr0, hr1, hb, hs⟩ := two_rows w _ _ _ _ _ _ _ _ _ _ _ W hW.symm
  obtain ⟨⟨x0, x1, x2, x3, x4⟩, _⟩ := rowE hr0
  obtain ⟨⟨y0, y1, y2, y3, y4⟩, f0, f1, f2, f3, f4⟩ := rowE hr1
  have HR1 := hid0 hr1
  have HB := hid0 hb
  have HS := hid0 hs
  have HSA := hid0 (hN.below hb)
  have HRA := hid0 (hP.below hb)
  obtain ⟨pk, hpk⟩ : ∃ pk, pk = pickN (IntKind.i64.wrap (k - 1)) 7 := ⟨_, rfl⟩
  obtain ⟨kq, hkq⟩ : ∃ kq, IntKind.i64.wrap (k - 1) = kq := ⟨_, rfl⟩
  have HPk := hid0 (fun V => pick_at kq 7 (by omega) (by omega) V)
  have hp7 : pk < 7 := by rw [hpk]; exact pickN_lt _ _ (by omega)
  rw [← hkq, ← hpk] at HPk
  rw [hkq] at HPk
  have HKT : Hid (kindT k = 1 + pk) := hid0 (by rw [hpk]; rfl)
  have hadd : IntKind.i64.wrap (1 + (pk : Int)) = 1 + (pk : Int) := by simp [IntKind.wrap, IntKind.bits, IntKind.signed]; omega
  clear hN hP hb hs hr0 hr1 hpk
  by_cases h1 : pk = 0
  · subst h1
    obtain ⟨V, hV, hVr, hR⟩ := ret_done HB.out (Nat.le_succ _) HR1.out (Nat.lt_succ_self _) (empty_is W _)
    simp only [] at hV hVr
    have HLf : Hid (leafE k nt N P = .mk 1 false [] [] []) := hid0 (by unfold leafE; rw [if_pos HKT.out])
    have HR := hid0 hR
    have HVr := hid0 hVr
    clear hR hVr
    unfold setE at hV
    have HV := hid0 hV
    clear hV
    by_cases hm : m = 0
    · subst hm
      go_enter Tryd.func5, Tryd.ntmps5
      go_wp2_with (go_at_call 19; refine (HPk.out _).mono ?_; rintro r w1 ⟨rfl, rfl⟩)
      rw [← HV.out]
      obtain ⟨⟨k0, k1, k2, k3, k4⟩, _⟩ := rowE HVr.out
      exact bodyPost_ret (v := .agg #[.int .i64 1, .bool false, .slice none 0 0, .slice none 0 0, .slice none 0 0]) (by simp [results, Tryd.results5, go_sem, k0, k1, k2, k3, k4]) rfl (by rw [HLf.out]; exact HR.out)
    · have hn : n = 0 := by omega
      subst hn
      have hm0 : ¬ ((m : Int) = 0) := by omega
      go_enter Tryd.func5, Tryd.ntmps5
      go_wp2_with (go_at_call 19; refine (HPk.out _).mono ?_; rintro r w1 ⟨rfl, rfl⟩)
      rw [← HV.out]
      obtain ⟨⟨k0, k1, k2, k3, k4⟩, _⟩ := rowE HVr.out
      exact bodyPost_ret (v := .agg #[.int .i64 1, .bool false, .slice none 0 0, .slice none 0 0, .slice none 0 0]) (by simp [results, Tryd.results5, go_sem, k0, k1, k2, k3, k4]) rfl (by rw [HLf.out]; exact HR.out)
  · have hk1 : ¬ (1 + (pk : Int) = 1) := by omega
    have HLf : Hid (leafE k nt N P = .mk 2 nt (nmK N 3) (ptK P) []) := hid0 (by unfold leafE; rw [if_neg (by have := HKT.out; omega)])
    have HSet := hid0 (fun V (hV : Below W.heap.size W V) => setOf_any nt N P a b ca cb V (HSA.out.below hV) (HRA.out.below hV))
    have key : ∀ (w1 : World) (g h : Option Addr) (ce cf : Nat), SQ w1 (fun b => W.heap.size ≤ b) g (nmK N 3) → RQ w1 (fun b => W.heap.size ≤ b) h (ptK P) → Below W.heap.size W w1 → ∃ V, V = setE w1 (w.heap.size + 1) (.int .i64 2) (.bool nt) (.slice g (nmK N 3).length ce) (.slice h (ptK P).length cf) (.slice none 0 0) ∧
        V.heap[w.heap.size + 1]? = some (.cells #[.int .i64 2, .bool nt, .slice g (nmK N 3).length ce, .slice h (ptK P).length cf, .slice none 0 0] 28 (0, 0)) ∧ ExR w (leafE k nt N P) (.returned (.agg #[.int .i64 2, .bool nt, .slice g (nmK N 3).length ce, .slice h (ptK P).length cf, .slice none 0 0])) V := fun w1 g h ce cf q1 q2 q3 => by
      rw [HLf.out]
      have hd := ret_done (y := ⟨.int .i64 2, .bool nt, .slice g (nmK N 3).length ce, .slice h (ptK P).length cf, .slice none 0 0⟩) (Below.later HB.out q3) (Nat.le_succ _) ((q3.block _ (by have := HS.out; omega)).trans HR1.out) (show w.heap.size + 1 < W.heap.size by have := HS.out; omega) (set_is ce cf q1 q2 (by have := nmK_len N 3; omega) (by have := pts_len P; omega))
      unfold EV.v at hd
      dsimp only at hd
      exact hd
    have HKey := hid0 key
    clear key
    by_cases hm : m = 0
    · subst hm
      go_enter Tryd.func5, Tryd.ntmps5
      go_wp2_with (first
        | (go_at_call 19; refine (HPk.out _).mono ?_; rintro r w1 ⟨rfl, rfl⟩)
        | (go_at_call 12; refine (HSet.out _ (Below.refl _ _)).mono ?_; rintro r w1 ⟨g, ce, h, cf, rfl, q1, q2, q3⟩; obtain ⟨V, hV, hVr, hR⟩ := HKey.out w1 g h ce cf q1 q2 q3; have HR := hid0 hR; have HVr := hid0 hVr; unfold setE at hV; have HV := hid0 hV; obtain ⟨⟨z0, z1, z2, z3, z4⟩, g0, g1, g2, g3, g4⟩ := rowE ((q3.block _ (by have := HS.out; omega)).trans HR1.out); clear hV hR hVr q1 q2 q3)
        | fail)
      rw [← HV.out]
      obtain ⟨⟨k0, k1, k2, k3, k4⟩, _⟩ := rowE HVr.out
      exact bodyPost_ret (v := .agg #[.int .i64 2, .bool nt, .slice g (nmK N 3).length ce, .slice h (ptK P).length cf, .slice none 0 0]) (by simp [results, Tryd.results5, go_sem, k0, k1, k2, k3, k4]) rfl HR.out
    · have hn : n = 0 := by omega
      subst hn
      have hm0 : ¬ ((m : Int) = 0) := by omega
      go_enter Tryd.func5, Tryd.ntmps5
      go_wp2_with (first
        | (go_at_call 19; refine (HPk.out _).mono ?_; rintro r w1 ⟨rfl, rfl⟩)
        | (go_at_call 12; refine (HSet.out _ (Below.refl _ _)).mono ?_; rintro r w1 ⟨g, ce, h, cf, rfl, q1, q2, q3⟩; obtain ⟨V, hV, hVr, hR⟩ := HKey.out w1 g h ce cf q1 q2 q3; have HR := hid0 hR; have HVr := hid0 hVr; unfold setE at hV; have HV := hid0 hV; obtain ⟨⟨z0, z1, z2, z3, z4⟩, g0, g1, g2, g3, g4⟩ := rowE ((q3.block _ (by have := HS.out; omega)).trans HR1.out); clear hV hR hVr q1 q2 q3)
        | fail)
      rw [← HV.out]
      obtain ⟨⟨k0, k1, k2, k3, k4⟩, _⟩ := rowE HVr.out
      exact bodyPost_ret (v := .agg #[.int .i64 2, .bool nt, .slice g (nmK N 3).length ce, .slice h (ptK P).length cf, .slice none 0 0]) (by simp [results, Tryd.results5, go_sem, k0, k1, k2, k3, k4]) rfl HR.out
end Go.Proofs.YtolnoojbcbdfiaaDoor
namespace Go.Proofs.YtolnoojbcbdfiaaDoor
open Go.RowKit Go.Shelf
/-- An expression whose lists lie in blocks from lo to hi, each in one of its own. -/
inductive RvIs (w : World) : Nat → Nat → Ex → EV → Prop
  | mk (lo m hi : Nat) (k : Int) (nt : Bool) (N : List ByteArray) (P : List (Int × Int)) (L : List Ex) (a : Option Addr) (ca : Nat) (b : Option Addr) (cb : Nat) (c : Option Addr) (cc : Nat) (xs : List EV) (los his : Nat → Nat)
    (h1 : lo ≤ m) (h2 : m ≤ hi) (hN : SQ w (fun q => lo ≤ q ∧ q < m) a N) (hP : RQ w (fun q => lo ≤ q ∧ q < m) b P) (lN : N.length ≤ 1000000000) (lP : P.length ≤ 1000000000) (lL : L.length ≤ 1000000000)
    (len : xs.length = L.length) (own : w.ownsRow m 28 5 (.slice c L.length cc) L.length (xs.flatMap evC))
    (gin : ∀ g, (Value.slice c L.length cc).ownBlock = some g → g < hi ∧ ∀ i, i < L.length → g < los i ∨ his i ≤ g)
    (pin : ∀ i, i < L.length → m ≤ los i ∧ los i ≤ his i ∧ his i ≤ hi)
    (dis : ∀ i j, i < L.length → j < L.length → i ≠ j → his i ≤ los j ∨ his j ≤ los i)
    (is : ∀ i (h : i < L.length) (h' : i < xs.length), RvIs w (los i) (his i) L[i] xs[i]) :
    RvIs w lo hi (.mk k nt N P L) ⟨.int .i64 k, .bool nt, .slice a N.length ca, .slice b P.length cb, .slice c L.length cc⟩
/-- A list of such expressions. -/
structure PR (w : World) (m hi : Nat) (v : Value) (L : List Ex) (xs : List EV) (los his : Nat → Nat) : Prop where
  len : xs.length = L.length
  own : w.ownsRow m 28 5 v L.length (xs.flatMap evC)
  gin : ∀ g, v.ownBlock = some g → g < hi ∧ ∀ i, i < L.length → g < los i ∨ his i ≤ g
  pin : ∀ i, i < L.length → m ≤ los i ∧ los i ≤ his i ∧ his i ≤ hi
  dis : ∀ i j, i < L.length → j < L.length → i ≠ j → his i ≤ los j ∨ his j ≤ los i
  is : ∀ i (h : i < L.length) (h' : i < xs.length), RvIs w (los i) (his i) L[i] xs[i]
theorem RvIs.shape {w : World} {lo hi : Nat} {k : Int} {nt : Bool} {N : List ByteArray} {P : List (Int × Int)} {L : List Ex} {x : EV} (h : RvIs w lo hi (.mk k nt N P L) x) : ∃ m a ca b cb c cc xs los his, x = ⟨.int .i64 k, .bool nt, .slice a N.length ca, .slice b P.length cb, .slice c L.length cc⟩ ∧ lo ≤ m ∧ m ≤ hi ∧
    SQ w (fun q => lo ≤ q ∧ q < m) a N ∧ RQ w (fun q => lo ≤ q ∧ q < m) b P ∧ N.length ≤ 1000000000 ∧ P.length ≤ 1000000000 ∧ L.length ≤ 1000000000 ∧ PR w m hi (.slice c L.length cc) L xs los his := by
  cases h with
  | mk _ m _ _ _ _ _ _ a ca b cb c cc xs los his h1 h2 hN hP lN lP lL len own gin pin dis is => exact ⟨m, a, ca, b, cb, c, cc, xs, los, his, rfl, h1, h2, hN, hP, lN, lP, lL, len, own, gin, pin, dis, is⟩
theorem PR.rv {w : World} {lo m hi : Nat} {k : Int} {nt : Bool} {N : List ByteArray} {P : List (Int × Int)} {L : List Ex} {a b c : Option Addr} {ca cb cc : Nat} {xs : List EV} {los his : Nat → Nat} (h : PR w m hi (.slice c L.length cc) L xs los his) (h1 : lo ≤ m) (h2 : m ≤ hi) (hN : SQ w (fun q => lo ≤ q ∧ q < m) a N) (hP : RQ w (fun q => lo ≤ q ∧ q < m) b P) (lN : N.length ≤ 1000000000) (lP : P.length ≤ 1000000000) (lL : L.length ≤ 1000000000) :
    RvIs w lo hi (.mk k nt N P L) ⟨.int .i64 k, .bool nt, .slice a N.length ca, .slice b P.length cb, .slice c L.length cc⟩ :=
  .mk lo m hi k nt N P L a ca b cb c cc xs los his h1 h2 hN hP lN lP lL h.len h.own h.gin h.pin h.dis h.is
/-- It stays where its blocks stay. -/
theorem RvIs.keeps {w w' : World} {lo hi : Nat} {e : Ex} {x : EV} (h : RvIs w lo hi e x) (hs : w.heap.size ≤ w'.heap.size) (hk : ∀ b, lo ≤ b → b < hi → b < w.heap.size → w'.heap[b]? = w.heap[b]?) : RvIs w' lo hi e x := by
  induction h with
  | mk lo m hi k nt N P L a ca b cb c cc xs los his h1 h2 hN hP lN lP lL len own gin pin dis is ih =>
    have kq : Keeps (fun q => lo ≤ q ∧ q < m) w w' := ⟨hs, fun g o hq hl => World.cell?_of_block (w := w) (hk g hq.1 (by omega) hl)⟩
    exact .mk lo m hi k nt N P L a ca b cb c cc xs los his h1 h2 (hN.keeps kq) (hP.keeps kq) lN lP lL len
      (own_blk own (fun g hg => hk g (by have := (World.ownsRow.lt own g hg).1; omega) (gin g hg).1 (World.ownsRow.lt own g hg).2)) gin pin dis
      (fun i h h' => ih i h h' (fun b p1 p2 p3 => hk b (by have := (pin i h).1; omega) (by have := (pin i h).2.2; omega) p3))
theorem RvIs.past {w w' : World} {lo hi : Nat} {e : Ex} {x : EV} (h : RvIs w lo hi e x) (k : Below w.heap.size w w') : RvIs w' lo hi e x := h.keeps k.size (fun b _ _ hl => k.block b hl)
theorem RvIs.mono {w : World} {lo hi lo' hi' : Nat} {e : Ex} {x : EV} (h : RvIs w lo hi e x) (h1 : lo' ≤ lo) (h2 : hi ≤ hi') : RvIs w lo' hi' e x := by
  cases h with
  | mk _ m _ k nt N P L a ca b cb c cc xs los his p1 p2 hN hP lN lP lL len own gin pin dis is =>
    exact .mk lo' m hi' k nt N P L a ca b cb c cc xs los his (by omega) (by omega) (by
      exact ⟨fun k hk => by
        obtain ⟨b, off, e, hq, r⟩ := hN.at' k hk
        exact ⟨b, off, e, ⟨by omega, hq.2⟩, r⟩⟩) (by
      exact ⟨fun k hk => by
        obtain ⟨b, off, e, hq, r⟩ := hP.at' k hk
        exact ⟨b, off, e, ⟨by omega, hq.2⟩, r⟩⟩) lN lP lL len own (fun g hg => ⟨by have := (gin g hg).1; omega, (gin g hg).2⟩) (fun i hi => by have := pin i hi; omega) dis is
theorem PR.past {w w' : World} {m hi : Nat} {v : Value} {L : List Ex} {xs : List EV} {los his : Nat → Nat} (h : PR w m hi v L xs los his) (k : Below w.heap.size w w') : PR w' m hi v L xs los his :=
  ⟨h.len, own_blk h.own (fun g hg => k.block g (World.ownsRow.lt h.own g hg).2), h.gin, h.pin, h.dis, fun i p q => (h.is i p q).past k⟩
theorem PR.cells {W : World} {m hi : Nat} {v : Value} {L : List Ex} {xs : List EV} {los his : Nat → Nat} (h : PR W m hi v L xs los his) (i : Nat) (hi' : i < L.length) (hx : i < xs.length) : ∃ g c, v = .slice (some ⟨g, 0, none⟩) L.length c ∧ m ≤ g ∧ Five W g (i * 5) xs[i] := by
  have ho := h.own
  rcases ho.2 with ⟨rfl, hn⟩ | ⟨g, cap, cur, rfl, hg, hrow, _⟩
  · omega
  · refine ⟨g, cap, rfl, hg, ?_⟩
    have hc : ∀ j, j < 5 → W.cell? ⟨g, i * 5 + j, none⟩ = (evC xs[i])[j]? := fun j hj => by
      have h1 := World.ownsRow.cellAt ho (i * 5 + j) (by have : i * 5 + 5 ≤ L.length * 5 := by { have := Nat.mul_le_mul_right 5 (Nat.succ_le_of_lt hi'); omega }; omega)
      rw [h1, flatE xs i j hx hj]
    exact ⟨hc 0 (by omega), hc 1 (by omega), hc 2 (by omega), hc 3 (by omega), hc 4 (by omega)⟩
/-- It is an expression in memory. -/
theorem RvIs.ex {w : World} {lo hi : Nat} {e : Ex} {x : EV} (h : RvIs w lo hi e x) : ExIs w (fun _ => True) e x := by
  induction h with
  | mk lo m hi k nt N P L a ca b cb c cc xs los his h1 h2 hN hP lN lP lL len own gin pin dis is ih =>
    have hp : PR w m hi (.slice c L.length cc) L xs los his := ⟨len, own, gin, pin, dis, is⟩
    refine .mk k nt N P L a ca b cb c cc (fun i => xs.getD i ⟨.nilIface, .nilIface, .nilIface, .nilIface, .nilIface⟩) ⟨fun k hk => by
        obtain ⟨b, off, e, _, r⟩ := hN.at' k hk
        exact ⟨b, off, e, trivial, r⟩⟩ ⟨fun k hk => by
        obtain ⟨b, off, e, _, r⟩ := hP.at' k hk
        exact ⟨b, off, e, trivial, r⟩⟩ lN lP lL (fun i hi => ?_) (fun i hi => ?_)
    · have hi' : i < xs.length := by rw [len]; exact hi
      obtain ⟨g, c', e, _, h5⟩ := hp.cells i hi hi'
      cases e
      exact ⟨g, 0, rfl, trivial, by rw [List.getD_eq_getElem?_getD, List.getElem?_eq_getElem hi', Nat.zero_add]; exact h5⟩
    · have hi' : i < xs.length := by rw [len]; exact hi
      rw [List.getD_eq_getElem?_getD, List.getElem?_eq_getElem hi']
      exact ih i hi hi'
/-- One part is turned. -/
theorem PR.set {w w' : World} {m hi : Nat} {v : Value} {L : List Ex} {xs : List EV} {los his : Nat → Nat} (h : PR w m hi v L xs los his) (j : Nat) (hj : j < L.length) (hx : j < xs.length) (e : Ex) (ho : Only w w' (fun b => los j ≤ b ∧ b < his j)) (he : RvIs w' (los j) (his j) e xs[j]) : PR w' m hi v (L.set j e) xs los his := by
  have hl : (L.set j e).length = L.length := List.length_set
  refine ⟨by rw [hl]; exact h.len, ?_, fun g hg => ?_, fun i hi => ?_, fun i i' p q => ?_, fun i p q => ?_⟩
  · rw [hl]
    exact own_blk h.own (fun g hg => ho.block g (World.ownsRow.lt h.own g hg).2 (fun c => by have := (h.gin g hg).2 j hj; omega))
  · rw [hl]
    exact h.gin g hg
  · rw [hl] at hi
    exact h.pin i hi
  · rw [hl] at p q
    exact h.dis i i' p q
  · have p' : i < L.length := by rw [hl] at p; exact p
    by_cases hij : j = i
    · subst hij
      rw [List.getElem_set_self]
      exact he
    · rw [List.getElem_set_ne hij]
      exact (h.is i p' q).keeps ho.size (fun b q1 q2 q3 => ho.block b q3 (fun c => by have := h.dis j i hj p' hij; omega))
/-- A part is put behind the others. -/
theorem PR.snoc {W w3 w4 : World} {m hi lo2 hi2 : Nat} {v v4 : Value} {L : List Ex} {xs : List EV} {los his : Nat → Nat} {e : Ex} {x : EV} (h : PR W m hi v L xs los his) (hm : m ≤ hi) (hx : RvIs W lo2 hi2 e x) (h2 : hi ≤ lo2) (h22 : lo2 ≤ hi2) (h3 : Below W.heap.size W w3) (hs2 : hi2 ≤ w3.heap.size) (hg : w3.grownBy w4 v.ownBlock)
    (ho : w4.ownsRow m 28 5 v4 (L.length + 1) (xs.flatMap evC ++ evC x)) (hat : v4.ownBlock = v.ownBlock ∨ v4.ownBlock = some w3.heap.size) :
    PR w4 m w4.heap.size v4 (L ++ [e]) (xs ++ [x]) (fun i => if i < L.length then los i else lo2) (fun i => if i < L.length then his i else hi2) := by
  have hsz : w3.heap.size ≤ w4.heap.size := hg.size
  have hlt4 : ∀ g, v4.ownBlock = some g → g < w4.heap.size := fun g e => (World.ownsRow.lt ho g e).2
  have blk : ∀ b, b < W.heap.size → v.ownBlock ≠ some b → w4.heap[b]? = W.heap[b]? := fun b hb hne => (hg.block b (Nat.lt_of_lt_of_le hb h3.size) (fun q => hne q.symm)).trans (h3.block b hb)
  have hhi : hi ≤ w4.heap.size := by omega
  refine ⟨by simp [h.len], ?_, fun g hgv => ⟨hlt4 g hgv, fun i hi' => ?_⟩, fun i hi' => ?_, fun i j p q hne => ?_, fun i p q => ?_⟩
  · rw [List.length_append, List.length_singleton, List.flatMap_append, List.flatMap_singleton]; exact ho
  · rw [List.length_append, List.length_singleton] at hi'
    rcases hat with q | q
    · have hg' := h.gin g (q ▸ hgv)
      split
      · rename_i hl
        exact hg'.2 i hl
      · exact .inl (by omega)
    · rw [q] at hgv
      cases hgv
      split
      · rename_i hl
        have := (h.pin i hl).2.2
        exact .inr (by omega)
      · exact .inr hs2
  · split
    · rename_i hl
      have := h.pin i hl
      omega
    · omega
  · rw [List.length_append, List.length_singleton] at p q
    split
    · rename_i hl
      split
      · rename_i hl2
        exact h.dis i j hl hl2 hne
      · have := (h.pin i hl).2.2
        exact .inl (by omega)
    · split
      · rename_i hl2
        have := (h.pin j hl2).2.2
        exact .inr (by omega)
      · omega
  · rw [List.length_append, List.length_singleton] at p
    rcases Nat.lt_or_ge i L.length with hl | hl
    · have hl2 : i < xs.length := by rw [h.len]; exact hl
      simp only [List.getElem_append_left hl, List.getElem_append_left hl2, if_pos hl]
      exact (h.is i hl hl2).keeps (Nat.le_trans h3.size hsz) (fun b q1 q2 q3 => blk b q3 (fun e => by have := (h.gin b e).2 i hl; omega))
    · have : i = L.length := by omega
      subst this
      have hq : ∀ (hx : L.length < (xs ++ [x]).length), (xs ++ [x])[L.length]'hx = x := fun hx => by
        rw [List.getElem_append_right (by rw [h.len]; exact Nat.le_refl _)]; simp [h.len]
      rw [hq]
      simp only [List.getElem_concat_length, Nat.lt_irrefl, if_false]
      exact hx.keeps (Nat.le_trans h3.size hsz) (fun b q1 q2 q3 => blk b q3 (fun e => by have := (h.gin b e).1; omega))
theorem PR.nil (W : World) (m : Nat) : PR W m m (.slice none 0 0) [] [] (fun _ => 0) (fun _ => 0) :=
  ⟨rfl, World.ownsRow_nil _ _ _ _, fun g e => (by simp [Value.ownBlock] at e), fun i h => absurd h (Nat.not_lt_zero _), fun i _ h => absurd h (Nat.not_lt_zero _), fun i h => absurd h (Nat.not_lt_zero _)⟩
end Go.Proofs.YtolnoojbcbdfiaaDoor
namespace Go.Proofs
open Go.Shelf
def Tryd.laysM316_ren : Go.Shelf.Ren := ⟨fun | 316 => 64 | n => n, fun | 9 => 9 | 3 => 3 | 4 => 4 | 37 => 112 | 0 => 0 | 127 => 113 | 5 => 5 | n => n, fun | n => n⟩
theorem Tryd.laysM316 : Go.Proofs.LaysM.n316 Tryd.prog Tryd.laysM316_ren := {
  mixed := by kernel_rfl
  f316 := Tryd.func64.trans (congrArg some (by kernel_rfl))
  t0 := Tryd.underlying0
  a0 := Tryd.isAgg0
  z0 := Tryd.sizeOf0
  v0 := Tryd.zeroValue0
  t3 := Tryd.underlying3
  a3 := Tryd.isAgg3
  z3 := Tryd.sizeOf3
  v3 := Tryd.zeroValue3
  t4 := Tryd.underlying4
  a4 := Tryd.isAgg4
  z4 := Tryd.sizeOf4
  v4 := Tryd.zeroValue4
  t9 := Tryd.underlying9
  a9 := Tryd.isAgg9
  z9 := Tryd.sizeOf9
  v9 := Tryd.zeroValue9
  t37 := Tryd.underlying112
  a37 := Tryd.isAgg112
  z37 := Tryd.sizeOf112
  v37 := Tryd.zeroValue112
  t127 := Tryd.underlying113
  a127 := Tryd.isAgg113
  z127 := Tryd.sizeOf113
  v127 := Tryd.zeroValue113
  t5 := Tryd.underlying5
  a5 := Tryd.isAgg5
  z5 := Tryd.sizeOf5
  v5 := Tryd.zeroValue5
  i0 := by kernel_rfl
  i3 := by kernel_rfl
  i4 := by kernel_rfl
  i5 := by kernel_rfl
  i9 := by kernel_rfl
  i37 := by kernel_rfl
  i127 := by kernel_rfl }
end Go.Proofs
namespace Go.Proofs.YtolnoojbcbdfiaaDoor
open Go.RowKit Go.Shelf
set_option maxRecDepth 10000 in
set_option maxHeartbeats 800000 in
theorem clone_one (s : ByteArray) (w : World) (hs : s.size ≤ 1000) :
    Calls Tryd.prog 53 #[.string s] w fun e w' => e = .returned (.string s) ∧ Below w.heap.size w w' := by
  have HC := hid0 (fun V => Any.stringslite_Clone Tryd.laysM316 s V (by omega))
  go_enter Tryd.func53, Tryd.ntmps53
  go_wp2_with (first
    | (go_at_call 64; refine (HC.out _).mono ?_; rintro r w1 ⟨rfl, hb⟩; have HB := hid0 hb; clear hb)
    | fail)
  go_ret
  exact ⟨rfl, HB.out⟩
theorem OwnS.more {w : World} {lo : Nat} {v : Value} {l : List ByteArray} {s : ByteArray} (h : w.ownsRow lo 9 1 v (l.length + 1) (cellsS l ++ [.string s])) : OwnS w lo v (l ++ [s]) := by
  unfold OwnS
  have : cellsS (l ++ [s]) = cellsS l ++ [.string s] := by unfold cellsS; rw [List.map_append]; rfl
  rw [List.length_append, List.length_singleton, this]
  exact h
def EachS (w : World) (L : List ByteArray) (r : Ending) (w' : World) : Prop := ∃ v, r = .returned v ∧ OwnS w' w.heap.size v L ∧ Below w.heap.size w w'
set_option maxRecDepth 10000 in
set_option maxHeartbeats 1600000 in
theorem eachS_any (L : List ByteArray) (a : Option Addr) (cap : Nat) (w : World) (hl : L.length ≤ 1000000000) (hs : ∀ s, s ∈ L → s.size ≤ 1000) (ha : SA w a L) :
    Calls Tryd.prog 52 #[.slice a L.length cap, .func (.func 53) #[] #[]] w fun r w' => EachS w L r w' := by
  obtain ⟨i0, hi, hz0, hz1, hz2⟩ := info_parts infoStr
  have HA := hid0 ha
  have HSz := hid0 hs
  clear ha hs
  go_enter Tryd.func52, Tryd.ntmps52
  go_wp2
  go_loopw [5, 7, 10] (fun v _ i wr => ∃ (k : Nat), k ≤ L.length ∧ i = .int .i64 (k : Int) ∧ Hid (OwnS wr w.heap.size v (L.take k)) ∧ Hid (Below w.heap.size w wr)) (fun _ _ i _ => L.length - (intOf i).toNat)
  case atStart => exact ⟨0, Nat.zero_le _, rfl, hid0 (World.ownsRow_nil _ _ _ _), hid0 (Below.refl _ _)⟩
  case round =>
    obtain ⟨k, hk, rfl, HO, HB⟩ := hrel
    by_cases hlt : k < L.length
    · have hkI : (k : Int) < (L.length : Int) := by omega
      have hkI0 : (0 : Int) ≤ (k : Int) := by omega
      obtain ⟨b, off, rfl, hbw, hc⟩ := HA.out.at' k hlt
      have hc' := (HB.out.cell (p := ⟨b, off + k, none⟩) hbw).trans hc
      have HTK : Hid (L.take (k + 1) = L.take k ++ [L[k]]) := hid0 (by rw [List.take_add_one, List.getElem?_eq_getElem hlt]; rfl)
      have HTL : Hid ((L.take k).length = k) := hid0 (by rw [List.length_take]; omega)
      have hvs : ∃ av cv, u5 = .slice av k cv := by
        obtain ⟨av, cv, e, _⟩ := HO.out.sq
        rw [HTL.out] at e
        exact ⟨av, cv, e⟩
      obtain ⟨av, cv, rfl⟩ := hvs
      have HOne := hid0 (clone_one L[k] wr (HSz.out _ (List.getElem_mem hlt)))
      have hbs := HB.out.size
      generalize L[k] = s at *
      clear hc
      go_wp2_with (first
        | (go_at_call 53; refine HOne.out.mono ?_; rintro r w1 ⟨rfl, hb1⟩; have HOk : Hid (w1.ownsRow w.heap.size 9 1 (.slice av k cv) k (cellsS (L.take k))) := hid0 (by have ho := own_blk HO.out (fun g hg => hb1.block g (World.ownsRow.lt HO.out g hg).2); rw [HTL.out] at ho; exact ho); have HB1 := hid0 hb1; clear hb1)
        | (at_builtin; go_loud ((
             refine wpList_append_own _ (by rfl) _ _ 22 (by rfl) w.heap.size 9 i0 (.string ⟨#[]⟩) 1 16 Tryd.underlying22 hi hz0 hz1 hz2 rfl (by decide) (.slice av k cv) k (cellsS (L.take k)) (by rfl) (World.ownsRow.alloc HOk.out _) ⟨w1.heap.size, 0, none⟩ 1 1 [.string s] (by rfl) (by rfl) (cell_one_new w1 _ _) (fun u hu => by rw [List.mem_singleton.1 hu]; rfl) (by unfold maxLen; omega) (by omega) (by have := HB1.out.size; simp; omega) ?_
             intro v2 w2 hown2 hgrow2 _
             have HO2 : Hid (OwnS w2 w.heap.size v2 (L.take (k + 1))) := hid0 (by rw [HTK.out]; exact OwnS.more (by rw [HTL.out]; exact hown2))
             have HB2 := hid0 (((HB.out.trans (HB1.out.mono hbs)).alloc (by have := HB1.out.size; omega) _).grown hgrow2 (by have := HB1.out.size; simp; omega) (fun q hq => (World.ownsRow.lt HOk.out q hq).1))
             clear hown2 hgrow2)))
        | fail)
      go_roundw
      case rel => exact ⟨k + 1, by omega, by go_num, HO2, HB2⟩
      case measure => simp [intOf]; omega
    · have hkI : ¬ (k : Int) < (L.length : Int) := by omega
      have HE : Hid (OwnS wr w.heap.size u5 L) := hid0 (by have h := HO.out; rw [List.take_of_length_le (by omega)] at h; exact h)
      go_wp2
      go_ret
      exact ⟨u5, rfl, HE.out, HB.out⟩
end Go.Proofs.YtolnoojbcbdfiaaDoor
namespace Go.Proofs.YtolnoojbcbdfiaaDoor
open Go.RowKit Go.Shelf
theorem OwnR.rq {w : World} {lo : Nat} {v : Value} {L : List (Int × Int)} (h : OwnR w lo v L) : ∃ a cap, v = .slice a L.length cap ∧ RQ w (fun g => lo ≤ g) a L := by
  have h0 := h
  rcases h.2 with ⟨rfl, hn⟩ | ⟨g, cap, cur, rfl, hg, hr, _⟩
  · exact ⟨none, 0, by rw [hn], ⟨fun k hk => by omega⟩⟩
  · refine ⟨_, cap, rfl, ⟨fun k hk => ⟨g, 0, rfl, hg, ?_, ?_⟩⟩⟩
    · have := World.ownsRow.cellAt h0 (k * 2) (by omega)
      rw [Nat.zero_add, this]
      exact (cellsR_at L k hk).1
    · have := World.ownsRow.cellAt h0 (k * 2 + 1) (by omega)
      rw [Nat.zero_add, this]
      exact (cellsR_at L k hk).2
/-- A set that is answered, in memory of its own. -/
def CopS (w : World) (nt : Bool) (N : List ByteArray) (P : List (Int × Int)) (e : Ending) (w' : World) : Prop := ∃ g ce h cf, e = .returned (.agg #[.bool nt, .slice g N.length ce, .slice h P.length cf]) ∧ SQ w' (fun b => w.heap.size ≤ b) g N ∧ RQ w' (fun b => w.heap.size ≤ b) h P ∧ Below w.heap.size w w'
theorem two_rows3 (w : World) (t : TypeId) (a b c a' b' c' : Value) (W : World) (hW : W = (w.alloc (.cells #[a, b, c] t)).alloc (.cells #[a', b', c'] t)) :
    W.heap[w.heap.size]? = some (.cells #[a, b, c] t (0, 0)) ∧ W.heap[w.heap.size + 1]? = some (.cells #[a', b', c'] t (0, 0)) ∧ Below w.heap.size w W ∧ W.heap.size = w.heap.size + 2 := by
  obtain ⟨wa, hwa⟩ : ∃ wa, wa = w.alloc (.cells #[a, b, c] t) := ⟨_, rfl⟩
  have sa : wa.heap.size = w.heap.size + 1 := by rw [hwa]; simp
  have hW2 : W = wa.alloc (.cells #[a', b', c'] t) := by rw [hW, hwa]
  refine ⟨?_, ?_, ?_, ?_⟩
  · rw [hW2, Below.heap_alloc wa _ _ (by omega), hwa]; exact heap_alloc_new w _
  · rw [hW2, ← sa]; exact heap_alloc_new wa _
  · rw [hW]; exact ((Below.refl _ _).alloc (Nat.le_refl _) _).alloc (by simp) _
  · rw [hW2]; simp [sa]
theorem cops_done {w W w2 : World} {nt : Bool} {N : List ByteArray} {P : List (Int × Int)} {a h : Option Addr} {ca cf : Nat} {z0 z1 z2 : Value} (bel : Below w.heap.size w W) (hs : W.heap.size = w.heap.size + 2) (r1 : W.heap[w.heap.size + 1]? = some (.cells #[z0, z1, z2] 25 (0, 0))) (hb : Below W.heap.size W w2) (hN : SQ w2 (fun g => W.heap.size ≤ g) a N) (hP : RQ w2 (fun g => W.heap.size ≤ g) h P) :
    ∃ V, V = set3 w2 (w.heap.size + 1) (.bool nt) (.slice a N.length ca) (.slice h P.length cf) ∧ V.heap[w.heap.size + 1]? = some (.cells #[.bool nt, .slice a N.length ca, .slice h P.length cf] 25 (0, 0)) ∧ (∀ b o, b ≠ w.heap.size + 1 → V.cell? ⟨b, o, none⟩ = w2.cell? ⟨b, o, none⟩) ∧ CopS w nt N P (.returned (.agg #[.bool nt, .slice a N.length ca, .slice h P.length cf])) V := by
  have ho : ∀ g, g ≠ w.heap.size + 1 → (set3 w2 (w.heap.size + 1) (.bool nt) (.slice a N.length ca) (.slice h P.length cf)).heap[g]? = w2.heap[g]? := fun g hg => set3_other hg _ _ _
  have hr := set3_row ((hb.block _ (by omega)).trans r1) (.bool nt) (.slice a N.length ca) (.slice h P.length cf)
  have hsz : w2.heap.size ≤ (set3 w2 (w.heap.size + 1) (.bool nt) (.slice a N.length ca) (.slice h P.length cf)).heap.size := by unfold set3; simp
  have hbb : Below w.heap.size w (set3 w2 (w.heap.size + 1) (.bool nt) (.slice a N.length ca) (.slice h P.length cf)) := by
    unfold set3
    exact (((Below.later bel hb).setCell (p := ⟨w.heap.size + 1, 0, none⟩) (by simp) _).setCell (p := ⟨w.heap.size + 1, 1, none⟩) (by simp) _).setCell (p := ⟨w.heap.size + 1, 2, none⟩) (by simp) _
  refine ⟨_, rfl, hr, fun b o hne => World.cell?_of_block (w := w2) (a := ⟨b, o, none⟩) (ho b hne), a, ca, h, cf, rfl, ?_, ?_, hbb⟩
  · generalize set3 w2 (w.heap.size + 1) (.bool nt) (.slice a N.length ca) (.slice h P.length cf) = V at *
    have hk : Keeps (fun g => W.heap.size ≤ g) w2 V := ⟨hsz, fun g o hg _ => World.cell?_of_block (w := w2) (ho g (by omega))⟩
    have h2 := hN.keeps hk
    exact ⟨fun k hk => by
      obtain ⟨b, off, e, hq, h3, h4⟩ := h2.at' k hk
      exact ⟨b, off, e, by omega, h3, h4⟩⟩
  · generalize set3 w2 (w.heap.size + 1) (.bool nt) (.slice a N.length ca) (.slice h P.length cf) = V at *
    have hk : Keeps (fun g => W.heap.size ≤ g) w2 V := ⟨hsz, fun g o hg _ => World.cell?_of_block (w := w2) (ho g (by omega))⟩
    have h2 := hP.keeps hk
    exact ⟨fun k hk => by
      obtain ⟨b, off, e, hq, h3, h4⟩ := h2.at' k hk
      exact ⟨b, off, e, by omega, h3, h4⟩⟩
theorem app_nilRc (w : World) (ty : TypeId) (c : Nat) : (Builtin.append_ #[23, 23] ty #[.slice none 0 0, .slice none 0 c]).run Tryd.prog w = .ok (.slice none 0 0) w := by
  go_simp
theorem wpList_spreadRc {ops : Array Oper} {rest : List Oper} {op : Oper} {a : Act} {w : World} {Q : Exit → Act → World → Prop} (hgd : op.guard = none) (s x : Operand) (ho : op.op = .call { callee := .builtin .append, args := #[s, x], argTypes := #[23, 23] })
    (aN : Option Addr) (L : List (Int × Int)) (cN base : Nat) (hs : a.eval s = .slice none 0 0) (hx : a.eval x = .slice aN L.length cN) (ha : RA w aN L) (hl : L.length ≤ 8796093022208) (hb : base ≤ w.heap.size)
    (h : ∀ v' w', OwnR w' base v' L → w.grownBy w' none → wpList Tryd.prog ops Q rest (a.put op.dst v') w') : wpList Tryd.prog ops Q (op :: rest) a w := by
  cases aN with
  | none =>
    have hL : L = [] := by
      cases L with
      | nil => rfl
      | cons y r => obtain ⟨b, off, e, _⟩ := ha.at' 0 (by simp); cases e
    subst hL
    refine wpList_plain hgd fun K hK => ?_
    have hr := app_nilRc w op.type cN
    unfold Oper.wp execOp
    simp only [ho, resolve, invoke, builtin, Sem.run_bind, Sem.run_pure, Result.andThen_ok, List.map_toArray, List.map_cons, List.map_nil, hs, hx, List.length_nil, hr]
    exact hK _ _ (h _ _ (World.ownsRow_nil _ _ _ _) ⟨rfl, rfl, rfl, Nat.le_refl _, fun _ _ _ => rfl⟩)
  | some ad => exact wpList_spreadR hgd s x ho (some ad) L cN base hs hx (fun e => nomatch e) ha hl hb h
set_option maxRecDepth 10000 in
set_option maxHeartbeats 1600000 in
theorem copiedSet_any (nt : Bool) (N : List ByteArray) (P : List (Int × Int)) (a b : Option Addr) (ca cb : Nat) (w : World) (hl : N.length ≤ 1000000000) (hs : ∀ s, s ∈ N → s.size ≤ 1000) (hlP : P.length ≤ 1000000000) (ha : SA w a N) (hb : RA w b P) :
    Calls Tryd.prog 36 #[.agg #[.bool nt, .slice a N.length ca, .slice b P.length cb]] w fun e w' => CopS w nt N P e w' := by
  obtain ⟨W, hW⟩ : ∃ W, (w.alloc (.cells #[.bool nt, .slice a N.length ca, .slice b P.length cb] 25)).alloc (.cells #[.bool false, .slice none 0 0, .slice none 0 0] 25) = W := ⟨_, rfl⟩
  obtain ⟨hr0, hr1, hbw, hsw⟩ := two_rows3 w _ _ _ _ _ _ _ W hW.symm
  obtain ⟨⟨x0, x1, x2⟩, _⟩ := row3 hr0
  have HR0 := hid0 hr0
  have HR1 := hid0 hr1
  have HB := hid0 hbw
  have HS := hid0 hsw
  have HRA := hid0 (hb.below hbw)
  have HEa := hid0 (fun (V : World) (hV : Below w.heap.size w V) => eachS_any N a ca V hl hs (ha.below hV))
  have HSk : Hid (∀ V, Below W.heap.size W V → V.cell? ⟨w.heap.size, 0, none⟩ = some (.bool nt) ∧ V.cell? ⟨w.heap.size, 1, none⟩ = some (.slice a N.length ca)) := hid0 (fun V hV => by
    obtain ⟨⟨q0, q1, _⟩, _⟩ := row3 ((hV.block _ (by omega)).trans hr0)
    exact ⟨q0, q1⟩)
  clear hr0 hr1 hbw hsw ha hb hs
  go_enter Tryd.func36, Tryd.ntmps36
  go_wp2_with (first
    | (at_builtin
       refine wpList_spreadRc (by rfl) _ _ (by rfl) b P cb W.heap.size (by rfl) (by rfl) HRA.out (by omega) (Nat.le_refl _) ?_
       intro vC w1 hoC hgC
       obtain ⟨h, cf, rfl, hrq⟩ := hoC.rq
       have hb1 : Below W.heap.size W w1 := (Below.refl _ _).grown hgC (Nat.le_refl _) (fun q e => (by cases e))
       have HQ := hid0 hrq
       have HB1 := hid0 hb1
       have hs1 := HSk.out _ (Below.later hb1 (Below.refl w1.heap.size w1).drew)
       clear hoC hgC hb1 hrq)
    | fail)
  go_region_held3 (fun V => V.cell? ⟨w.heap.size, 0, none⟩ = some (.bool nt) ∧ V.cell? ⟨w.heap.size, 1, none⟩ = some (.slice a N.length ca))
    (first | assumption | exact HSz.out)
    (first
      | (go_at_call 52
         refine (HEa.out _ (Below.later (Below.later HB.out HB1.out) (Below.refl w1.heap.size w1).drew)).mono ?_
         rintro r w2 ⟨v2, rfl, q1, q2⟩
         obtain ⟨g, ce, rfl, hsq⟩ := q1.sq
         have hb2 : Below W.heap.size W w2 := Below.later (Below.later HB1.out (Below.refl w1.heap.size w1).drew) q2
         have hs2 := HSk.out _ hb2
         have hq1 : Below w1.heap.size w1 w2 := Below.later (Below.refl w1.heap.size w1).drew q2
         obtain ⟨V, hV, hVr, hVo, hR⟩ := cops_done (nt := nt) (ca := ce) (cf := cf) HB.out HS.out HR1.out hb2 ⟨fun k hk => by
           obtain ⟨b', off', e', p1, p2⟩ := hsq.at' k hk
           exact ⟨b', off', e', Nat.le_trans HB1.out.size p1, p2⟩⟩ (HQ.out.keeps ⟨hq1.size, fun g' o' _ hl' => hq1.cell (p := ⟨g', o', none⟩) hl'⟩)
         have HR := hid0 hR
         have HVr := hid0 hVr
         obtain ⟨⟨z0, z1, z2⟩, f0, f1, f2⟩ := row3 ((hb2.block _ (by have := HS.out; omega)).trans HR1.out)
         have HSz : Hid (V.cell? ⟨w.heap.size, 0, none⟩ = some (.bool nt) ∧ V.cell? ⟨w.heap.size, 1, none⟩ = some (.slice a N.length ca)) := hid0 ⟨(hVo _ _ (by omega)).trans hs2.1, (hVo _ _ (by omega)).trans hs2.2⟩
         unfold set3 at hV
         have HV := hid0 hV
         rw [HV.out] at HSz
         clear hV hVr hVo hR q1 q2 hsq hb2 hq1))
  go_wp2
  rw [← HV.out]
  obtain ⟨⟨k0, k1, k2⟩, _⟩ := row3 HVr.out
  exact bodyPost_ret (v := .agg #[.bool nt, .slice g N.length ce, .slice h P.length cf]) (by simp [results, Tryd.results36, go_sem, k0, k1, k2]) rfl HR.out
end Go.Proofs.YtolnoojbcbdfiaaDoor
namespace Go.Proofs.YtolnoojbcbdfiaaDoor
open Go.RowKit Go.Shelf
def abcd (k : Nat) : ByteArray := if k = 0 then ⟨#[65]⟩ else if k = 1 then ⟨#[66]⟩ else if k = 2 then ⟨#[67]⟩ else ⟨#[68]⟩
/-- A unit of class A, B, C or D, out of any. -/
def kindK (u : Kd) : Kd := (abcd (u.1.size % 4), (pickN u.2 111 : Int) - 1)
/-- What kind begins with. -/
theorem kind_first (w : World) (s : ByteArray) (p : Int) (W : World) (hW : W = ((w.alloc (.cells #[.string s, .int .i64 p] 42)).alloc (.cells #[.string ⟨#[]⟩, .int .i64 0] 42)).alloc (.cells #[.string ⟨#[65]⟩, .string ⟨#[66]⟩, .string ⟨#[67]⟩, .string ⟨#[68]⟩] 9)) :
    W.cell? ⟨w.heap.size, 0, none⟩ = some (.string s) ∧ W.cell? ⟨w.heap.size, 1, none⟩ = some (.int .i64 p) ∧ (∀ j, j < 4 → W.cell? ⟨w.heap.size + 1 + 1, j, none⟩ = some (.string (abcd j))) ∧ W.heap[w.heap.size + 1]? = some (.cells #[.string ⟨#[]⟩, .int .i64 0] 42 (0, 0)) ∧ Below w.heap.size w W := by
  obtain ⟨wa, hwa⟩ : ∃ wa, wa = w.alloc (.cells #[.string s, .int .i64 p] 42) := ⟨_, rfl⟩
  obtain ⟨wb, hwb⟩ : ∃ wb, wb = wa.alloc (.cells #[.string ⟨#[]⟩, .int .i64 0] 42) := ⟨_, rfl⟩
  have sa : wa.heap.size = w.heap.size + 1 := by rw [hwa]; simp
  have sb : wb.heap.size = w.heap.size + 1 + 1 := by rw [hwb]; simp [sa]
  have hW2 : W = wb.alloc (.cells #[.string ⟨#[65]⟩, .string ⟨#[66]⟩, .string ⟨#[67]⟩, .string ⟨#[68]⟩] 9) := by rw [hW, hwb, hwa]
  have r0 : W.heap[w.heap.size]? = some (.cells #[.string s, .int .i64 p] 42 (0, 0)) := by rw [hW2, Below.heap_alloc wb _ _ (by omega), hwb, Below.heap_alloc wa _ _ (by omega), hwa]; exact heap_alloc_new w _
  have r1 : W.heap[w.heap.size + 1]? = some (.cells #[.string ⟨#[]⟩, .int .i64 0] 42 (0, 0)) := by rw [hW2, Below.heap_alloc wb _ _ (by omega), hwb, ← sa]; exact heap_alloc_new wa _
  have r2 : W.heap[w.heap.size + 1 + 1]? = some (.cells #[.string ⟨#[65]⟩, .string ⟨#[66]⟩, .string ⟨#[67]⟩, .string ⟨#[68]⟩] 9 (0, 0)) := by rw [hW2, ← sb]; exact heap_alloc_new wb _
  refine ⟨by rw [cell_of_row _ _ _ _ _ _ r0]; rfl, by rw [cell_of_row _ _ _ _ _ _ r0]; rfl, fun j hj => ?_, r1, by rw [hW]; exact (((Below.refl _ _).alloc (Nat.le_refl _) _).alloc (by simp) _).alloc (by simp; omega) _⟩
  rw [cell_of_row _ _ _ _ _ _ r2]
  rcases (show j = 0 ∨ j = 1 ∨ j = 2 ∨ j = 3 by omega) with rfl | rfl | rfl | rfl <;> rfl
theorem row2 {W : World} {X : Nat} {t : TypeId} {a b : Value} (h : W.heap[X]? = some (.cells #[a, b] t (0, 0))) : (W.cell? ⟨X, 0, none⟩ = some a ∧ W.cell? ⟨X, 1, none⟩ = some b) ∧ (W.frozen? ⟨X, 0, none⟩ = false ∧ W.frozen? ⟨X, 1, none⟩ = false) :=
  ⟨⟨by rw [cell_of_row _ _ _ _ _ _ h]; rfl, by rw [cell_of_row _ _ _ _ _ _ h]; rfl⟩, by simp [World.frozen?, h], by simp [World.frozen?, h]⟩
set_option maxRecDepth 10000 in
set_option maxHeartbeats 1600000 in
theorem kind_any (u : Kd) (w : World) :
    Calls Tryd.prog 20 #[.agg #[.string u.1, .int .i64 u.2]] w fun r w' => r = .returned (.agg #[.string (kindK u).1, .int .i64 (kindK u).2]) ∧ Below w.heap.size w w' := by
  obtain ⟨s, p⟩ := u
  obtain ⟨W, hW⟩ : ∃ W, ((w.alloc (.cells #[.string s, .int .i64 p] 42)).alloc (.cells #[.string ⟨#[]⟩, .int .i64 0] 42)).alloc (.cells #[.string ⟨#[65]⟩, .string ⟨#[66]⟩, .string ⟨#[67]⟩, .string ⟨#[68]⟩] 9) = W := ⟨_, rfl⟩
  obtain ⟨x0, x1, x2, hr, hb⟩ := kind_first w s p W hW.symm
  obtain ⟨m, hm⟩ : ∃ m, m = s.size % 4 := ⟨_, rfl⟩
  have hm4 : m < 4 := by omega
  have x3 := x2 m hm4
  have hidx : Int.tmod (s.size : Int) 4 = (m : Int) := by rw [Int.tmod_eq_emod_of_nonneg (by omega)]; omega
  have hi0 : (0 : Int) ≤ (m : Int) := by omega
  have hi4 : (m : Int) < 4 := by omega
  obtain ⟨q, hq⟩ : ∃ q, q = pickN p 111 := ⟨_, rfl⟩
  have hq1 : q < 111 := by rw [hq]; exact pickN_lt _ _ (by omega)
  have HPk := hid0 (fun V => pick_at p 111 (by omega) (by omega) V)
  rw [← hq] at HPk
  have hsub : IntKind.i64.wrap ((q : Int) - 1) = (q : Int) - 1 := by simp [IntKind.wrap, IntKind.bits, IntKind.signed]; omega
  have HK : Hid (kindK (s, p) = (abcd m, (q : Int) - 1)) := hid0 (by unfold kindK; rw [hm, hq])
  generalize abcd m = cl at *
  obtain ⟨⟨y0, y1⟩, f0, f1⟩ := row2 hr
  have hS : W.drew.cell? ⟨w.heap.size, 0, none⟩ = some (.string s) ∧ W.drew.cell? ⟨w.heap.size, 1, none⟩ = some (.int .i64 p) ∧ W.drew.cell? ⟨w.heap.size + 1 + 1, m, none⟩ = some (.string cl) := ⟨x0, x1, x3⟩
  have hoth : ∀ (b o : Nat), b ≠ w.heap.size + 1 → ((W.setCell ⟨w.heap.size + 1, 0, none⟩ (.string cl)).setCell ⟨w.heap.size + 1, 1, none⟩ (.int .i64 ((q : Int) - 1))).drew.cell? ⟨b, o, none⟩ = W.cell? ⟨b, o, none⟩ := fun b o hne => World.cell?_of_block (w := W) (a := ⟨b, o, none⟩) (by
    show ((W.setCell ⟨w.heap.size + 1, 0, none⟩ (.string cl)).setCell ⟨w.heap.size + 1, 1, none⟩ (.int .i64 ((q : Int) - 1))).heap[b]? = W.heap[b]?
    rw [Below.heap_setCell _ _ _ b hne, Below.heap_setCell _ _ _ b hne])
  have HS2 : Hid (((W.setCell ⟨w.heap.size + 1, 0, none⟩ (.string cl)).setCell ⟨w.heap.size + 1, 1, none⟩ (.int .i64 ((q : Int) - 1))).drew.cell? ⟨w.heap.size, 0, none⟩ = some (.string s) ∧ ((W.setCell ⟨w.heap.size + 1, 0, none⟩ (.string cl)).setCell ⟨w.heap.size + 1, 1, none⟩ (.int .i64 ((q : Int) - 1))).drew.cell? ⟨w.heap.size, 1, none⟩ = some (.int .i64 p) ∧ ((W.setCell ⟨w.heap.size + 1, 0, none⟩ (.string cl)).setCell ⟨w.heap.size + 1, 1, none⟩ (.int .i64 ((q : Int) - 1))).drew.cell? ⟨w.heap.size + 1 + 1, m, none⟩ = some (.string cl)) :=
    hid0 ⟨(hoth _ _ (by omega)).trans x0, (hoth _ _ (by omega)).trans x1, (hoth _ _ (by omega)).trans x3⟩
  have HRow : Hid (((W.setCell ⟨w.heap.size + 1, 0, none⟩ (.string cl)).setCell ⟨w.heap.size + 1, 1, none⟩ (.int .i64 ((q : Int) - 1))).drew.heap[w.heap.size + 1]? = some (.cells #[.string cl, .int .i64 ((q : Int) - 1)] 42 (0, 0))) := hid0 (heap_setCell_same _ _ 1 _ _ (.int .i64 ((q : Int) - 1)) (heap_setCell_same _ _ 0 _ _ (.string cl) hr))
  have HB : Hid (Below w.heap.size w ((W.setCell ⟨w.heap.size + 1, 0, none⟩ (.string cl)).setCell ⟨w.heap.size + 1, 1, none⟩ (.int .i64 ((q : Int) - 1))).drew) := hid0 (((hb.setCell (p := ⟨w.heap.size + 1, 0, none⟩) (by simp) _).setCell (p := ⟨w.heap.size + 1, 1, none⟩) (by simp) _).drew)
  clear x2 hr hb hm hq hoth
  go_enter Tryd.func20, Tryd.ntmps20
  go_wp2
  go_region_held3 (fun V => V.cell? ⟨w.heap.size, 0, none⟩ = some (.string s) ∧ V.cell? ⟨w.heap.size, 1, none⟩ = some (.int .i64 p) ∧ V.cell? ⟨w.heap.size + 1 + 1, m, none⟩ = some (.string cl))
    (first | assumption | exact hS | exact HS2.out)
    (first | (go_at_call 19; refine (HPk.out _).mono ?_; rintro r w1 ⟨rfl, rfl⟩))
  go_wp2
  obtain ⟨⟨k0, k1⟩, _⟩ := row2 HRow.out
  exact bodyPost_ret (v := .agg #[.string cl, .int .i64 ((q : Int) - 1)]) (by simp [results, Tryd.results20, go_sem, k0, k1]) rfl ⟨by rw [HK.out], HB.out⟩
end Go.Proofs.YtolnoojbcbdfiaaDoor
namespace Go.Proofs.YtolnoojbcbdfiaaDoor
open Go.RowKit Go.Shelf
def kuC (u : Kd) : List Value := [.string u.1, .int .i64 u.2]
def cellsU (l : List Kd) : List Value := l.flatMap kuC
theorem flatU (l : List Kd) : ∀ (i j : Nat) (h : i < l.length), j < 2 → (cellsU l)[i * 2 + j]? = (kuC l[i])[j]? := by
  unfold cellsU
  induction l with
  | nil => intro i j h; exact absurd h (Nat.not_lt_zero _)
  | cons g l ih =>
    intro i j h hj
    rw [List.flatMap_cons]
    cases i with
    | zero =>
      rw [Nat.zero_mul, Nat.zero_add, List.getElem?_append_left (by simpa [kuC] using hj)]
      rfl
    | succ i =>
      rw [List.getElem?_append_right (by simp [kuC]; omega)]
      rw [show (i + 1) * 2 + j - (kuC g).length = i * 2 + j by simp [kuC]; omega]
      exact ih i j (by simpa using h) hj
def OwnU (w : World) (lo : Nat) (v : Value) (l : List Kd) : Prop := w.ownsRow lo 42 2 v l.length (cellsU l)
theorem OwnU.nil (w : World) (lo : Nat) : OwnU w lo (.slice none 0 0) [] := World.ownsRow_nil _ _ _ _
theorem OwnU.ka {w : World} {lo : Nat} {v : Value} {l : List Kd} (h : OwnU w lo v l) : ∃ a cap, v = .slice a l.length cap ∧ KA w w.heap.size a l := by
  have h0 := h
  rcases h.2 with ⟨rfl, hn⟩ | ⟨g, cap, cur, rfl, hg, hr, _⟩
  · exact ⟨none, 0, by rw [hn], ⟨fun k hk => by omega⟩⟩
  · refine ⟨_, cap, rfl, ⟨fun k hk => ⟨g, 0, rfl, (World.ownsRow.lt h0 g rfl).2, ?_, ?_⟩⟩⟩
    · have := World.ownsRow.cellAt h0 (k * 2) (by omega)
      rw [Nat.zero_add, this]
      exact flatU l k 0 hk (by omega)
    · have := World.ownsRow.cellAt h0 (k * 2 + 1) (by omega)
      rw [Nat.zero_add, this]
      exact flatU l k 1 hk (by omega)
theorem OwnU.past {w w' : World} {lo : Nat} {v : Value} {l : List Kd} (h : OwnU w lo v l) (k : Below w.heap.size w w') : OwnU w' lo v l :=
  own_blk h (fun g hg => k.block g (World.ownsRow.lt h g hg).2)
theorem infoU : (Tryd.prog.info? 42).map (fun i => (i.zero, i.size, i.bytes)) = some (some (.agg #[.string ByteArray.empty, .int .i64 0]), 2, 24) := by kernel_rfl
theorem cellU_new (w : World) (a b : Value) (t : TypeId) : ∀ j u, [a, b][j]? = some u → (w.alloc (.cells #[a, b] t)).cell? ((⟨w.heap.size, 0, none⟩ : Addr).add j) = some u := by
  intro j u h
  rw [Addr.add_mid, cell_of_row _ _ _ _ _ _ (heap_alloc_new w _)]
  simpa using h
/-- Up to twelve such units. -/
def wordK (l : List Kd) : List Kd := (l.take 12).map kindK
theorem OwnU.snoc {w : World} {lo : Nat} {v : Value} {l : List Kd} {u : Kd} (h : w.ownsRow lo 42 2 v (l.length + 1) (cellsU l ++ kuC u)) : OwnU w lo v (l ++ [u]) := by
  unfold OwnU cellsU
  rw [List.length_append, List.length_singleton, List.flatMap_append, List.flatMap_singleton]
  exact h
/-- What wordOf leaves. -/
def WordP (w : World) (l : List Kd) (r : Ending) (w' : World) : Prop := ∃ v, r = .returned v ∧ OwnU w' w.heap.size v (wordK l) ∧ Below w.heap.size w w'
set_option maxRecDepth 10000 in
set_option maxHeartbeats 1600000 in
theorem wordOf_any (l : List Kd) (a : Option Addr) (ca : Nat) (w : World) (ha : KA w w.heap.size a l) :
    Calls Tryd.prog 6 #[.slice a l.length ca] w fun r w' => WordP w l r w' := by
  obtain ⟨i0, hi, hz0, hz1, hz2⟩ := info_parts infoU
  have HA := hid0 ha
  clear ha
  go_enter Tryd.func6, Tryd.ntmps6
  go_wp2
  go_loopw [3, 4, 5] (fun v i _ wr => ∃ (j : Nat), j ≤ 12 ∧ j ≤ l.length ∧ i = .int .i64 (j : Int) ∧ Hid (OwnU wr w.heap.size v ((l.take j).map kindK)) ∧ Hid (Below w.heap.size w wr)) (fun _ i _ _ => 12 - (intOf i).toNat)
  case atStart => exact ⟨0, Nat.zero_le _, Nat.zero_le _, rfl, hid0 (OwnU.nil _ _), hid0 (Below.refl _ _)⟩
  case round =>
    obtain ⟨j, hj, hjl, rfl, HO, HB⟩ := hrel
    by_cases hlt : j < l.length ∧ j < 12
    · have hjI : (j : Int) < (l.length : Int) := by omega
      have hj3 : (j : Int) < 12 := by omega
      have hjI0 : (0 : Int) ≤ (j : Int) := by omega
      obtain ⟨b, off, rfl, hbw, hc0, hc1⟩ := HA.out.at' j hlt.1
      have hd0 := (HB.out.cell (p := ⟨b, off + j * 2, none⟩) hbw).trans hc0
      have hd1 := (HB.out.cell (p := ⟨b, off + j * 2 + 1, none⟩) hbw).trans hc1
      have HTK : Hid ((l.take (j + 1)).map kindK = (l.take j).map kindK ++ [kindK l[j]]) := hid0 (by rw [List.take_add_one, List.getElem?_eq_getElem hlt.1, List.map_append]; rfl)
      have HTL : Hid (((l.take j).map kindK).length = j) := hid0 (by rw [List.length_map, List.length_take]; omega)
      have hvs : ∃ aw cw, u3 = .slice aw j cw := by
        obtain ⟨aw, cw, e, _⟩ := HO.out.ka
        rw [HTL.out] at e
        exact ⟨aw, cw, e⟩
      obtain ⟨aw, cw, rfl⟩ := hvs
      have HKd := hid0 (kind_any l[j] wr)
      have hbs := HB.out.size
      generalize kindK l[j] = u2 at *
      generalize l[j] = u1 at *
      obtain ⟨s1, p1⟩ := u1
      obtain ⟨s2, p2⟩ := u2
      simp only [] at hd0 hd1 HKd
      clear hc0 hc1
      go_wp2_with (first
        | (go_at_call 20
           refine HKd.out.mono ?_
           rintro r w1 ⟨rfl, hb1⟩
           obtain ⟨w2, hw2⟩ : ∃ w2, w1.alloc (.cells #[.string s2, .int .i64 p2] 42) = w2 := ⟨_, rfl⟩
           have hb2 : Below wr.heap.size wr w2 := by rw [← hw2]; exact hb1.alloc hb1.size _
           have hr2 : w2.heap[w1.heap.size]? = some (.cells #[.string s2, .int .i64 p2] 42 (0, 0)) := by rw [← hw2]; exact heap_alloc_new w1 _
           obtain ⟨⟨c0, c1⟩, _⟩ := row2 hr2
           have HOk : Hid (w2.ownsRow w.heap.size 42 2 (.slice aw j cw) j (cellsU ((l.take j).map kindK))) := hid0 (by have ho := HO.out.past hb2; unfold OwnU at ho; rw [HTL.out] at ho; exact ho)
           have HB2 := hid0 hb2
           clear hb1 hb2 hr2)
        | (at_builtin; go_loud ((
             refine wpList_append_own _ (by rfl) _ _ 29 (by rfl) w.heap.size 42 i0 (.agg #[.string ByteArray.empty, .int .i64 0]) 2 24 Tryd.underlying29 hi hz0 hz1 hz2 rfl (by decide) (.slice aw j cw) j (cellsU ((l.take j).map kindK)) (by rfl) (World.ownsRow.alloc HOk.out _) ⟨w2.heap.size, 0, none⟩ 1 1 (kuC (s2, p2)) (by rfl) (by rfl) (cellU_new w2 _ _ _) (fun u hu => by unfold kuC at hu; simp only [List.mem_cons, List.not_mem_nil, or_false] at hu; rcases hu with rfl | rfl <;> rfl) (by unfold maxLen; omega) (by omega) (by have := HB2.out.size; simp; omega) ?_
             intro v4 w4 hown4 hgrow4 _
             have HO4 : Hid (OwnU w4 w.heap.size v4 ((l.take (j + 1)).map kindK)) := hid0 (by rw [HTK.out]; exact OwnU.snoc (by rw [HTL.out]; exact hown4))
             have HB4 := hid0 (((HB.out.trans (HB2.out.mono hbs)).alloc (by have := HB2.out.size; omega) _).grown hgrow4 (by have := HB2.out.size; simp; omega) (fun q hq => (World.ownsRow.lt HOk.out q hq).1))
             clear hown4 hgrow4)))
        | fail)
      go_roundw
      case rel => exact ⟨j + 1, by omega, by omega, by go_num, HO4, HB4⟩
      case measure => simp [intOf]; omega
    · have HE : Hid (OwnU wr w.heap.size u3 (wordK l)) := hid0 (by
        have h := HO.out
        have e : l.take j = l.take 12 := by
          rcases Nat.lt_or_ge j 12 with h3 | h3
          · rw [List.take_of_length_le (by omega), List.take_of_length_le (by omega)]
          · rw [show j = 12 by omega]
        rw [e] at h
        exact h)
      by_cases hA : j < l.length
      · have hjI : (j : Int) < (l.length : Int) := by omega
        have hj3 : ¬ (j : Int) < 12 := by omega
        go_wp2
        go_ret
        exact ⟨u3, rfl, HE.out, HB.out⟩
      · have hjI : ¬ (j : Int) < (l.length : Int) := by omega
        go_wp2
        go_ret
        exact ⟨u3, rfl, HE.out, HB.out⟩
end Go.Proofs.YtolnoojbcbdfiaaDoor
namespace Go.Proofs.YtolnoojbcbdfiaaDoor
open Go.RowKit Go.Shelf
def eA : Ex := .mk 2 false [⟨#[65]⟩] [] []
def eB : Ex := .mk 2 false [] [(66, 66)] []
def eF : Ex := .mk 3 false [] [] [eA, .mk 6 false [] [] [eB]]
def wdF : List Kd := [(⟨#[65]⟩, 65), (⟨#[88]⟩, 66), (⟨#[88]⟩, 66)]
theorem eF_ok : okE eF = true := by decide +kernel
theorem eF_chk : CR.okB (chkE mayF eF 1 0 0) = true := eF_ok
theorem eF_mt : Mt eF wdF := by
  refine (mt_seq_cons _ _ _ _ _ _).2 ⟨[(⟨#[65]⟩, 65)], [(⟨#[88]⟩, 66), (⟨#[88]⟩, 66)], rfl, (mt_set _ _ _ _ _).2 ⟨_, rfl, by decide +kernel⟩, (mt_seq_one _ _ _ _ _).2 ((mt_plus _ _).2 ⟨1, by decide, (mt_set _ _ _ _ _).2 ⟨_, rfl, by decide +kernel⟩, ?_⟩)⟩
  exact (mt_star _ _).2 (.inr ⟨1, by decide, by decide, (mt_set _ _ _ _ _).2 ⟨_, rfl, by decide +kernel⟩, (mt_star _ _).2 (.inl rfl)⟩)
theorem eF_len {l : List Kd} (h : Mt eF l) : 2 ≤ l.length := by
  obtain ⟨u, v, rfl, h1, h2⟩ := (mt_seq_cons _ _ _ _ _ _).1 h
  obtain ⟨x, rfl, _⟩ := (mt_set _ _ _ _ _).1 h1
  obtain ⟨i, hi, h3, _⟩ := (mt_plus _ _).1 ((mt_seq_one _ _ _ _ _).1 h2)
  obtain ⟨y, e, _⟩ := (mt_set _ _ _ _ _).1 h3
  have : (v.take i).length = 1 := by rw [e]; rfl
  rw [List.length_take] at this
  rw [List.length_append, List.length_singleton]
  omega
def zX : EV := ⟨.nilIface, .nilIface, .nilIface, .nilIface, .nilIface⟩
theorem sq_one {w : World} {b : Nat} {s : ByteArray} {t : TypeId} (h : w.heap[b]? = some (.cells #[.string s] t (0, 0))) : SQ w (fun _ => True) (some ⟨b, 0, none⟩) [s] := ⟨fun k hk => by
  have : k = 0 := by simpa using hk
  subst this
  exact ⟨b, 0, rfl, trivial, lt_of_row h, by rw [cell_of_row _ _ _ _ _ _ h]; rfl⟩⟩
theorem rq_one {w : World} {b : Nat} {p q : Int} {t : TypeId} (h : w.heap[b]? = some (.cells #[.int .i64 p, .int .i64 q] t (0, 0))) : RQ w (fun _ => True) (some ⟨b, 0, none⟩) [(p, q)] := ⟨fun k hk => by
  have : k = 0 := by simpa using hk
  subst this
  exact ⟨b, 0, rfl, trivial, by rw [cell_of_row _ _ _ _ _ _ h]; rfl, by rw [cell_of_row _ _ _ _ _ _ h]; rfl⟩⟩
/-- A block laid at the end. -/
theorem laid {w w' : World} {o : Array Value} {t : TypeId} (h : w.alloc (.cells o t) = w') : Below w.heap.size w w' ∧ w'.heap[w.heap.size]? = some (.cells o t (0, 0)) ∧ w'.heap.size = w.heap.size + 1 := by
  subst h
  exact ⟨(Below.refl _ _).alloc (Nat.le_refl _) _, heap_alloc_new w _, by simp⟩
theorem kept {w w' : World} (h : Below w.heap.size w w') {b : Nat} {o : Obj} (hb : w.heap[b]? = some o) : w'.heap[b]? = some o := by
  have hl : b < w.heap.size := by
    rcases Nat.lt_or_ge b w.heap.size with h1 | h1
    · exact h1
    · rw [Array.getElem?_eq_none h1] at hb
      cases hb
  exact (h.block b hl).trans hb
theorem first_world (w w1 w2 w3 w4 w5 w6 w7 w8 : World)
    (h1 : w.alloc (.cells #[.string ⟨#[65]⟩] 9) = w1)
    (h2 : w1.alloc (.cells #[.int .i64 2, .bool false, .slice (some ⟨w.heap.size, 0, none⟩) 1 1, .slice none 0 0, .slice none 0 0] 28) = w2)
    (h3 : w2.alloc (.cells #[.int .i64 66, .int .i64 66] 56) = w3)
    (h4 : w3.alloc (.cells #[.int .i64 2, .bool false, .slice none 0 0, .slice (some ⟨w2.heap.size, 0, none⟩) 1 1, .slice none 0 0] 28) = w4)
    (h5 : w4.alloc (.cells #[.int .i64 2, .bool false, .slice none 0 0, .slice (some ⟨w2.heap.size, 0, none⟩) 1 1, .slice none 0 0] 28) = w5)
    (h6 : w5.alloc (.cells #[.int .i64 2, .bool false, .slice (some ⟨w.heap.size, 0, none⟩) 1 1, .slice none 0 0, .slice none 0 0, .int .i64 6, .bool false, .slice none 0 0, .slice none 0 0, .slice (some ⟨w4.heap.size, 0, none⟩) 1 1] 28) = w6)
    (h7 : w6.alloc (.cells #[.int .i64 3, .bool false, .slice none 0 0, .slice none 0 0, .slice (some ⟨w5.heap.size, 0, none⟩) 2 2] 28) = w7)
    (h8 : w7.alloc (.cells #[.string ⟨#[65]⟩, .int .i64 65, .string ⟨#[88]⟩, .int .i64 66, .string ⟨#[88]⟩, .int .i64 66] 42) = w8) :
    (w4.heap[w1.heap.size]? = some (.cells #[.int .i64 2, .bool false, .slice (some ⟨w.heap.size, 0, none⟩) 1 1, .slice none 0 0, .slice none 0 0] 28 (0, 0))) ∧
    (w4.heap[w3.heap.size]? = some (.cells #[.int .i64 2, .bool false, .slice none 0 0, .slice (some ⟨w2.heap.size, 0, none⟩) 1 1, .slice none 0 0] 28 (0, 0))) ∧
    (w8.heap[w6.heap.size]? = some (.cells #[.int .i64 3, .bool false, .slice none 0 0, .slice none 0 0, .slice (some ⟨w5.heap.size, 0, none⟩) 2 2] 28 (0, 0))) ∧
    ExIs w8 (fun _ => True) eF ⟨.int .i64 3, .bool false, .slice none 0 0, .slice none 0 0, .slice (some ⟨w5.heap.size, 0, none⟩) 2 2⟩ ∧
    KA w8 w8.heap.size (some ⟨w7.heap.size, 0, none⟩) wdF ∧ Below w.heap.size w w8 := by
  obtain ⟨b1, r1, s1⟩ := laid h1
  obtain ⟨b2, r2, s2⟩ := laid h2
  obtain ⟨b3, r3, s3⟩ := laid h3
  obtain ⟨b4, r4, s4⟩ := laid h4
  obtain ⟨b5, r5, s5⟩ := laid h5
  obtain ⟨b6, r6, s6⟩ := laid h6
  obtain ⟨b7, r7, s7⟩ := laid h7
  obtain ⟨b8, r8, s8⟩ := laid h8
  have q1 := kept b8 (kept b7 (kept b6 (kept b5 (kept b4 (kept b3 (kept b2 r1))))))
  have q3 := kept b8 (kept b7 (kept b6 (kept b5 (kept b4 r3))))
  have q5 := kept b8 (kept b7 (kept b6 r5))
  have q6 := kept b8 (kept b7 r6)
  have q7 := kept b8 r7
  clear h1 h2 h3 h4 h5 h6 h7 h8
  have isA : ExIs w8 (fun _ => True) eA ⟨.int .i64 2, .bool false, .slice (some ⟨w.heap.size, 0, none⟩) 1 1, .slice none 0 0, .slice none 0 0⟩ :=
    .mk 2 false [⟨#[65]⟩] [] [] _ 1 none 0 none 0 (fun _ => zX) (sq_one q1) (RQ.nil _ _ _) (by simp) (by simp) (by simp) (fun i hi => absurd hi (Nat.not_lt_zero _)) (fun i hi => absurd hi (Nat.not_lt_zero _))
  have isB : ExIs w8 (fun _ => True) eB ⟨.int .i64 2, .bool false, .slice none 0 0, .slice (some ⟨w2.heap.size, 0, none⟩) 1 1, .slice none 0 0⟩ :=
    .mk 2 false [] [(66, 66)] [] none 0 _ 1 none 0 (fun _ => zX) (SQ.nil _ _ _) (rq_one q3) (by simp) (by simp) (by simp) (fun i hi => absurd hi (Nat.not_lt_zero _)) (fun i hi => absurd hi (Nat.not_lt_zero _))
  have isP : ExIs w8 (fun _ => True) (.mk 6 false [] [] [eB]) ⟨.int .i64 6, .bool false, .slice none 0 0, .slice none 0 0, .slice (some ⟨w4.heap.size, 0, none⟩) 1 1⟩ := by
    obtain ⟨⟨a0, a1, a2, a3, a4⟩, _⟩ := rowE q5
    refine .mk 6 false [] [] [eB] none 0 none 0 (some ⟨w4.heap.size, 0, none⟩) 1 (fun _ => ⟨.int .i64 2, .bool false, .slice none 0 0, .slice (some ⟨w2.heap.size, 0, none⟩) 1 1, .slice none 0 0⟩) (SQ.nil _ _ _) (RQ.nil _ _ _) (by simp) (by simp) (by simp) (fun i hi => ?_) (fun i hi => ?_)
    · have : i = 0 := by simpa using hi
      subst this
      exact ⟨_, 0, rfl, trivial, a0, a1, a2, a3, a4⟩
    · have : i = 0 := by simpa using hi
      subst this
      exact isB
  refine ⟨kept b4 (kept b3 r2), r4, q7, ?_, ⟨fun k hk => ?_⟩, Below.later (Below.later (Below.later (Below.later (Below.later (Below.later (Below.later b1 b2) b3) b4) b5) b6) b7) b8⟩
  · have hc : ∀ j, w8.cell? ⟨w5.heap.size, j, none⟩ = _ := fun j => cell_of_row _ _ _ _ _ _ q6
    refine .mk 3 false [] [] [eA, .mk 6 false [] [] [eB]] none 0 none 0 (some ⟨w5.heap.size, 0, none⟩) 2 (fun i => if i = 0 then ⟨.int .i64 2, .bool false, .slice (some ⟨w.heap.size, 0, none⟩) 1 1, .slice none 0 0, .slice none 0 0⟩ else ⟨.int .i64 6, .bool false, .slice none 0 0, .slice none 0 0, .slice (some ⟨w4.heap.size, 0, none⟩) 1 1⟩) (SQ.nil _ _ _) (RQ.nil _ _ _) (by simp) (by simp) (by simp) (fun i hi => ?_) (fun i hi => ?_)
    · have : i = 0 ∨ i = 1 := by simp at hi; omega
      rcases this with rfl | rfl
      · exact ⟨_, 0, rfl, trivial, by rw [hc]; rfl, by rw [hc]; rfl, by rw [hc]; rfl, by rw [hc]; rfl, by rw [hc]; rfl⟩
      · exact ⟨_, 0, rfl, trivial, by rw [hc]; rfl, by rw [hc]; rfl, by rw [hc]; rfl, by rw [hc]; rfl, by rw [hc]; rfl⟩
    · have : i = 0 ∨ i = 1 := by simp at hi; omega
      rcases this with rfl | rfl
      · exact isA
      · exact isP
  · have hc : ∀ j, w8.cell? ⟨w7.heap.size, j, none⟩ = _ := fun j => cell_of_row _ _ _ _ _ _ r8
    have : k = 0 ∨ k = 1 ∨ k = 2 := by simp [wdF] at hk; omega
    rcases this with rfl | rfl | rfl
    · exact ⟨_, 0, rfl, by omega, by rw [hc]; rfl, by rw [hc]; rfl⟩
    · exact ⟨_, 0, rfl, by omega, by rw [hc]; rfl, by rw [hc]; rfl⟩
    · exact ⟨_, 0, rfl, by omega, by rw [hc]; rfl, by rw [hc]; rfl⟩
end Go.Proofs.YtolnoojbcbdfiaaDoor
namespace Go.Proofs.YtolnoojbcbdfiaaDoor
open Go.RowKit Go.Shelf
/-- Names of no more than a thousand bytes. -/
inductive SmallN : Ex → Prop
  | mk (k : Int) (nt : Bool) (N : List ByteArray) (P : List (Int × Int)) (L : List Ex) (hN : ∀ s, s ∈ N → s.size ≤ 1000) (hL : ∀ e, e ∈ L → SmallN e) : SmallN (.mk k nt N P L)
theorem SmallN.inv {k : Int} {nt : Bool} {N : List ByteArray} {P : List (Int × Int)} {L : List Ex} (h : SmallN (.mk k nt N P L)) : (∀ s, s ∈ N → s.size ≤ 1000) ∧ ∀ e, e ∈ L → SmallN e := by
  cases h with
  | mk _ _ _ _ _ hN hL => exact ⟨hN, hL⟩
/-- What copied leaves. -/
def CopR (w : World) (e : Ex) (r : Ending) (w' : World) : Prop := ∃ y : EV, r = .returned y.v ∧ RvIs w' w.heap.size w'.heap.size e y ∧ Below w.heap.size w w'
theorem RvIs.flat {w : World} {lo hi : Nat} {e : Ex} {x : EV} (h : RvIs w lo hi e x) : ∃ k t a m c b n d g l z, x = ⟨.int .i64 k, .bool t, .slice a m c, .slice b n d, .slice g l z⟩ := by
  cases h with
  | mk => exact ⟨_, _, _, _, _, _, _, _, _, _, _, rfl⟩
theorem CopR.shape {w w' : World} {t : Ex} {r : Ending} (h : CopR w t r w') : ∃ k u a m c b n d g l z, r = .returned (.agg #[.int .i64 k, .bool u, .slice a m c, .slice b n d, .slice g l z]) ∧ RvIs w' w.heap.size w'.heap.size t ⟨.int .i64 k, .bool u, .slice a m c, .slice b n d, .slice g l z⟩ ∧ Below w.heap.size w w' := by
  obtain ⟨y, e, h1, h2⟩ := h
  obtain ⟨k, u, a, m, c, b, n, d, g, l, z, rfl⟩ := h1.flat
  exact ⟨k, u, a, m, c, b, n, d, g, l, z, e, h1, h2⟩
theorem PR.up {w : World} {m hi hi' : Nat} {v : Value} {L : List Ex} {xs : List EV} {los his : Nat → Nat} (h : PR w m hi v L xs los his) (hh : hi ≤ hi') : PR w m hi' v L xs los his :=
  ⟨h.len, h.own, fun g e => ⟨by have := (h.gin g e).1; omega, (h.gin g e).2⟩, fun i p => by have := h.pin i p; omega, h.dis, h.is⟩
theorem PR.form {W : World} {m hi : Nat} {v : Value} {L : List Ex} {xs : List EV} {los his : Nat → Nat} (h : PR W m hi v L xs los his) : ∃ a c, v = .slice a L.length c := by
  rcases h.own.2 with ⟨rfl, e⟩ | ⟨g, cap', cur, rfl, _⟩
  · exact ⟨none, 0, by rw [e]⟩
  · exact ⟨_, _, rfl⟩
/-- What stands between the rounds. -/
structure EachI (w wr : World) (v : Value) (L : List Ex) : Prop where
  pr : ∃ hi xs los his, w.heap.size ≤ hi ∧ hi ≤ wr.heap.size ∧ PR wr w.heap.size hi v L xs los his
  bel : Below w.heap.size w wr
theorem EachI.first (w : World) : EachI w w (.slice none 0 0) [] := ⟨⟨w.heap.size, [], _, _, Nat.le_refl _, Nat.le_refl _, PR.nil _ _⟩, Below.refl _ _⟩
theorem EachI.form {w wr : World} {v : Value} {L : List Ex} (h : EachI w wr v L) : ∃ a c, v = .slice a L.length c := by
  obtain ⟨_, _, _, _, _, _, hp⟩ := h.pr
  exact hp.form
/-- The row as it is when a part was copied. -/
theorem EachI.row {w wr w2 : World} {v : Value} {L : List Ex} (h : EachI w wr v L) (h2 : Below wr.heap.size wr w2) : ∃ xs : List EV, w2.ownsRow w.heap.size 28 5 v L.length (xs.flatMap evC) ∧ ∀ (w1 w4 : World) (v4 : Value) (e : Ex) (x : EV) (T : TypeId), wr.heap.size ≤ w1.heap.size → w1.heap.size ≤ w2.heap.size → RvIs w2 w1.heap.size w2.heap.size e x → (w2.alloc (.cells #[x.k, x.t, x.n, x.p, x.r] T)).grownBy w4 v.ownBlock → w4.ownsRow w.heap.size 28 5 v4 (L.length + 1) (xs.flatMap evC ++ evC x) →
    (v4.ownBlock = v.ownBlock ∨ v4.ownBlock = some (w2.alloc (.cells #[x.k, x.t, x.n, x.p, x.r] T)).heap.size) → EachI w w4 v4 (L ++ [e]) := by
  obtain ⟨hi, xs, los, his, p1, p2, hp⟩ := h.pr
  have hp2 := hp.past h2
  refine ⟨xs, hp2.own, fun w1 w4 v4 e x T q1 q2 hx hg ho hat => ?_⟩
  have h3 : Below w2.heap.size w2 (w2.alloc (.cells #[x.k, x.t, x.n, x.p, x.r] T)) := (Below.refl _ _).alloc (Nat.le_refl _) _
  have hs := h.bel.size
  refine ⟨⟨_, _, _, _, ?_, Nat.le_refl _, PR.snoc hp2 p1 hx (by omega) q2 h3 h3.size hg ho hat⟩, ?_⟩
  · have := hg.size
    have := h3.size
    have := h2.size
    omega
  · exact (Below.later (Below.later h.bel h2) h3).grown hg (by have := h3.size; have := h2.size; omega) (fun q e => (World.ownsRow.lt hp.own q e).1)
def EachR (w : World) (L : List Ex) (r : Ending) (w' : World) : Prop := ∃ v xs los his, r = .returned v ∧ PR w' w.heap.size w'.heap.size v L xs los his ∧ Below w.heap.size w w'
set_option maxRecDepth 10000 in
set_option maxHeartbeats 1600000 in
theorem eachE_any (L : List Ex) (c : Option Addr) (cc : Nat) (vs : Nat → EV) (w : World) (hl : L.length ≤ 1000000000) (hL : ∀ i, i < L.length → ∃ g off, c = some ⟨g, off, none⟩ ∧ Five w g (off + i * 5) (vs i))
    (hF : ∀ i, i < L.length → ∃ k t a m c b n d g l z, vs i = ⟨.int .i64 k, .bool t, .slice a m c, .slice b n d, .slice g l z⟩)
    (ih : ∀ i (h : i < L.length) (W : World), Below w.heap.size w W → Calls Tryd.prog 25 #[(vs i).v] W fun r w' => CopR W L[i] r w') :
    Calls Tryd.prog 37 #[.slice c L.length cc, .func (.func 25) #[] #[]] w fun r w' => EachR w L r w' := by
  obtain ⟨i0, hi, hz0, hz1, hz2⟩ := info_parts infoE
  have HL := hid0 hL
  have HIH := hid0 ih
  have HFl := hid0 hF
  clear hL ih hF
  go_enter Tryd.func37, Tryd.ntmps37
  go_wp2
  go_loopw [5, 7, 10] (fun v _ i wr => ∃ (k : Nat), k ≤ L.length ∧ i = .int .i64 (k : Int) ∧ Hid (EachI w wr v (L.take k))) (fun _ _ i _ => L.length - (intOf i).toNat)
  case atStart => exact ⟨0, Nat.zero_le _, rfl, hid0 (EachI.first w)⟩
  case round =>
    obtain ⟨k, hk, rfl, HI⟩ := hrel
    by_cases hlt : k < L.length
    · have hkI : (k : Int) < (L.length : Int) := by omega
      have hkI0 : (0 : Int) ≤ (k : Int) := by omega
      obtain ⟨g, off, rfl, h5⟩ := HL.out k hlt
      obtain ⟨y0, y1, y2, y3, y4⟩ := h5.past HI.out.bel
      have HTK : Hid (L.take (k + 1) = L.take k ++ [L[k]]) := hid0 (by rw [List.take_add_one, List.getElem?_eq_getElem hlt]; rfl)
      have HTL : Hid ((L.take k).length = k) := hid0 (by rw [List.length_take]; omega)
      have hvs : ∃ av cv, u5 = .slice av k cv := by
        obtain ⟨av, cv, e⟩ := HI.out.form
        rw [HTL.out] at e
        exact ⟨av, cv, e⟩
      obtain ⟨av, cv, rfl⟩ := hvs
      have HC := hid0 (HIH.out k hlt)
      have hbs := HI.out.bel.size
      obtain ⟨k9, t9, a9, m9, c9, b9, n9, d9, g9, l9, z9, hfl⟩ := HFl.out k hlt
      rw [hfl] at y0 y1 y2 y3 y4 HC
      unfold EV.v at HC
      generalize L[k] = p at *
      simp only [] at y0 y1 y2 y3 y4 HC
      clear hfl
      obtain ⟨w1, hw1⟩ : ∃ w1, wr.alloc (.cells #[.int .i64 k9, .bool t9, .slice a9 m9 c9, .slice b9 n9 d9, .slice g9 l9 z9] 28) = w1 := ⟨_, rfl⟩
      obtain ⟨hb1, hr1, hs1⟩ := laid hw1
      obtain ⟨⟨c0, c1, c2, c3, c4⟩, _⟩ := rowE hr1
      have HB1 := hid0 hb1
      have HS1 := hid0 hs1
      clear h5 hb1 hr1 hs1
      go_wp2_with (first
        | (go_at_call 25
           refine (HC.out w1 (Below.later HI.out.bel HB1.out)).mono ?_
           rintro r w2 hr
           obtain ⟨k5, u5', a5, m5, c5, b5, n5, d5, g5, l5, z5, rfl, q1, q2⟩ := hr.shape
           obtain ⟨xs, hown, hnext⟩ := HI.out.row (Below.later HB1.out q2)
           rw [HTL.out] at hown hnext
           have HOk := hid0 hown
           have HNx := hid0 hnext
           have HQ := hid0 q1
           have HB2 := hid0 q2
           clear hr q1 q2 hown hnext)
        | (at_builtin; go_loud ((
             refine wpList_append_own_at _ (by rfl) _ _ 26 (by rfl) w.heap.size 28 i0 (.agg #[.int .i64 0, .bool false, .slice none 0 0, .slice none 0 0, .slice none 0 0]) 5 88 Tryd.underlying26 hi hz0 hz1 hz2 rfl (by decide) (.slice av k cv) k (xs.flatMap evC) (by rfl) (World.ownsRow.alloc HOk.out _) ⟨w2.heap.size, 0, none⟩ 1 1 (evC ⟨.int .i64 k5, .bool u5', .slice a5 m5 c5, .slice b5 n5 d5, .slice g5 l5 z5⟩) (by rfl) (by rfl) (cellE_new w2 _ _ _ _ _ _) HQ.out.ex.one (by unfold maxLen; omega) (by omega) (by have := HB2.out.size; have := HS1.out; simp; omega) ?_
             intro v4 w4 hown4 hgrow4 _ hat4
             have HI4 := hid0 (HNx.out w1 w4 v4 p _ 28 (by have := HS1.out; omega) HB2.out.size HQ.out hgrow4 hown4 hat4)
             clear hown4 hgrow4 hat4)))
        | fail)
      go_roundw
      case rel => exact ⟨k + 1, by omega, by go_num, hid0 (by rw [HTK.out]; exact HI4.out)⟩
      case measure => simp [intOf]; omega
    · have hkI : ¬ (k : Int) < (L.length : Int) := by omega
      have HE : Hid (EachI w wr u5 L) := hid0 (by have h := HI.out; rw [List.take_of_length_le (by omega)] at h; exact h)
      go_wp2
      go_ret
      obtain ⟨hi', xs, los, his, p1, p2, hp⟩ := HE.out.pr
      exact ⟨u5, xs, los, his, rfl, hp.up p2, HE.out.bel⟩
end Go.Proofs.YtolnoojbcbdfiaaDoor
namespace Go.Proofs.YtolnoojbcbdfiaaDoor
open Go.RowKit Go.Shelf
open Classical in
/-- Is a word met by an expression? -/
noncomputable def mtB (e : Ex) (l : List Kd) : Bool := okE e && decide (Mt e l)
open Classical in
theorem mtB_iff {e : Ex} (h : okE e = true) (l : List Kd) : mtB e l = true ↔ Mt e l := by
  unfold mtB
  rw [h, Bool.true_and, decide_eq_true_eq]
open Classical in
theorem mtB_no {e : Ex} {l : List Kd} (h : ¬ Mt e l) : mtB e l = false := by
  unfold mtB
  rw [decide_eq_false h, Bool.and_false]
theorem match_at (e : Ex) (x : EV) (Q : Nat → Prop) (l : List Kd) (a : Option Addr) (ca : Nat) (A : Nat → Addr) (w : World) (hl : l.length ≤ 1000000000) (hx : ExIs w Q e x) (hE : E3 w A) (ha : KA w w.heap.size a l) :
    Calls Tryd.prog 9 #[x.v, .slice a l.length ca] w fun r w' => r = .returned (.bool (mtB e l)) ∧ Below w.heap.size w w' := match_full e x Q l a ca A w hl hx hE ha
theorem KA.up {w : World} {B B' : Nat} {a : Option Addr} {l : List Kd} (h : KA w B a l) (hb : B ≤ B') : KA w B' a l := ⟨fun k hk => by
  obtain ⟨b, off, e, h1, h2, h3⟩ := h.at' k hk
  exact ⟨b, off, e, Nat.lt_of_lt_of_le h1 hb, h2, h3⟩⟩
/-- The first so many units, and those behind them. -/
theorem KA.take {w : World} {B : Nat} {a : Option Addr} {l : List Kd} (h : KA w B a l) (i : Nat) : KA w B a (l.take i) := ⟨fun k hk => by
  have hk' : k < l.length := by rw [List.length_take] at hk; omega
  obtain ⟨b, off, e, h1, h2, h3⟩ := h.at' k hk'
  rw [List.getElem_take]
  exact ⟨b, off, e, h1, h2, h3⟩⟩
theorem KA.drop {w : World} {B b off : Nat} {l : List Kd} (h : KA w B (some ⟨b, off, none⟩) l) (i : Nat) : KA w B (some ⟨b, off + i * 2, none⟩) (l.drop i) := ⟨fun k hk => by
  have hk' : i + k < l.length := by rw [List.length_drop] at hk; omega
  obtain ⟨b', off', e, h1, h2, h3⟩ := h.at' (i + k) hk'
  cases e
  rw [List.getElem_drop]
  have q : off + (i + k) * 2 = off + i * 2 + k * 2 := by omega
  rw [q] at h2 h3
  exact ⟨b, off + i * 2, rfl, h1, h2, h3⟩⟩
theorem KA.none (w : World) (B : Nat) (a : Option Addr) : KA w B a [] := ⟨fun _ h => absurd h (Nat.not_lt_zero _)⟩
set_option maxRecDepth 10000 in
set_option maxHeartbeats 800000 in
theorem empty_any (e : Ex) (x : EV) (Q : Nat → Prop) (A : Nat → Addr) (w : World) (hx : ExIs w Q e x) (hE : E3 w A) :
    Calls Tryd.prog 18 #[x.v] w fun r w' => r = .returned (.bool (mtB e [])) ∧ Below w.heap.size w w' := by
  have HM := hid0 (fun (V : World) (hV : Below w.heap.size w V) => match_at e x Q [] none 0 A V (by simp) (hx.past hV) (hE.below hV) (KA.none _ _ _))
  cases hx with
  | mk k nt N P L a ca b cb c cc vs hN hP lN lP lL hL hR =>
    unfold EV.v at HM ⊢
    simp only [List.length_nil] at HM ⊢
    clear hN hP lN lP lL hL hR hE
    generalize mtB (.mk k nt N P L) [] = res at *
    obtain ⟨w1, hw1⟩ : ∃ w1, w.alloc (.cells #[.int .i64 k, .bool nt, .slice a N.length ca, .slice b P.length cb, .slice c L.length cc] 28) = w1 := ⟨_, rfl⟩
    obtain ⟨hb1, hr1, _⟩ := laid hw1
    obtain ⟨⟨x0, x1, x2, x3, x4⟩, _⟩ := rowE hr1
    have HB := hid0 hb1
    clear hb1 hr1
    go_enter Tryd.func18, Tryd.ntmps18
    go_wp2_with (first
      | (go_at_call 9; refine (HM.out _ HB.out).mono ?_; rintro r w2 ⟨rfl, hb2⟩; have HB2 := hid0 (Below.later HB.out hb2); clear hb2)
      | fail)
    go_ret
    exact ⟨rfl, HB2.out⟩
theorem errC_ok {A : Nat → Addr} {c : CR} (h : CR.okB c = true) : errC A c = .nilIface := by
  cases c with
  | ok n s => rfl
  | bad f => cases h
set_option maxRecDepth 10000 in
set_option maxHeartbeats 1600000 in
theorem first_any (A : Nat → Addr) (w : World) (hE : E3 w A) :
    Calls Tryd.prog 7 #[] w fun r w' => r = .returned (.bool true) ∧ Below w.heap.size w w' := by
  obtain ⟨w1, hw1⟩ : ∃ w1, w.alloc (.cells #[.string ⟨#[65]⟩] 9) = w1 := ⟨_, rfl⟩
  obtain ⟨w2, hw2⟩ : ∃ w2, w1.alloc (.cells #[.int .i64 2, .bool false, .slice (some ⟨w.heap.size, 0, none⟩) 1 1, .slice none 0 0, .slice none 0 0] 28) = w2 := ⟨_, rfl⟩
  obtain ⟨w3, hw3⟩ : ∃ w3, w2.alloc (.cells #[.int .i64 66, .int .i64 66] 56) = w3 := ⟨_, rfl⟩
  obtain ⟨w4, hw4⟩ : ∃ w4, w3.alloc (.cells #[.int .i64 2, .bool false, .slice none 0 0, .slice (some ⟨w2.heap.size, 0, none⟩) 1 1, .slice none 0 0] 28) = w4 := ⟨_, rfl⟩
  obtain ⟨w5, hw5⟩ : ∃ w5, w4.alloc (.cells #[.int .i64 2, .bool false, .slice none 0 0, .slice (some ⟨w2.heap.size, 0, none⟩) 1 1, .slice none 0 0] 28) = w5 := ⟨_, rfl⟩
  obtain ⟨w6, hw6⟩ : ∃ w6, w5.alloc (.cells #[.int .i64 2, .bool false, .slice (some ⟨w.heap.size, 0, none⟩) 1 1, .slice none 0 0, .slice none 0 0, .int .i64 6, .bool false, .slice none 0 0, .slice none 0 0, .slice (some ⟨w4.heap.size, 0, none⟩) 1 1] 28) = w6 := ⟨_, rfl⟩
  obtain ⟨w7, hw7⟩ : ∃ w7, w6.alloc (.cells #[.int .i64 3, .bool false, .slice none 0 0, .slice none 0 0, .slice (some ⟨w5.heap.size, 0, none⟩) 2 2] 28) = w7 := ⟨_, rfl⟩
  obtain ⟨w8, hw8⟩ : ∃ w8, w7.alloc (.cells #[.string ⟨#[65]⟩, .int .i64 65, .string ⟨#[88]⟩, .int .i64 66, .string ⟨#[88]⟩, .int .i64 66] 42) = w8 := ⟨_, rfl⟩
  obtain ⟨rA, rB, rE, hx, hk, hb⟩ := first_world w w1 w2 w3 w4 w5 w6 w7 w8 hw1 hw2 hw3 hw4 hw5 hw6 hw7 hw8
  obtain ⟨_, _, s2⟩ := laid hw2
  obtain ⟨_, _, s4⟩ := laid hw4
  obtain ⟨_, _, s7⟩ := laid hw7
  have HRe := hid0 rE
  have HB8 := hid0 hb
  have hE8 := hE.below hb
  have HCk := hid0 (fun (V : World) (hV : Below w8.heap.size w8 V) => check_any mayF eF _ (fun _ => True) A V (hx.past hV) (allM_of (hx.past hV)) (hE8.below hV))
  have HM3 := hid0 (fun (V : World) (hV : Below w8.heap.size w8 V) => match_at eF _ (fun _ => True) wdF (some ⟨w7.heap.size, 0, none⟩) 3 A V (by decide) (hx.past hV) (hE8.below hV) ((hk.below hV).up hV.size))
  have HM1 := hid0 (fun (V : World) (hV : Below w8.heap.size w8 V) => match_at eF _ (fun _ => True) [(⟨#[65]⟩, 65)] (some ⟨w7.heap.size, 0, none⟩) 3 A V (by decide) (hx.past hV) (hE8.below hV) (((hk.below hV).up hV.size).take 1))
  have HEm := hid0 (fun (V : World) (hV : Below w8.heap.size w8 V) => empty_any eF _ (fun _ => True) A V (hx.past hV) (hE8.below hV))
  rw [errC_ok eF_chk] at HCk
  rw [(mtB_iff eF_ok _).2 eF_mt, show wdF.length = 3 from rfl] at HM3
  rw [mtB_no (fun h => absurd (eF_len h) (by decide)), show [((⟨#[65]⟩ : ByteArray), (65 : Int))].length = 1 from rfl] at HM1
  rw [mtB_no (fun h => absurd (eF_len h) (by decide))] at HEm
  unfold EV.v at HCk HM3 HM1 HEm
  simp only at HCk HM3 HM1 HEm
  have HSk : Hid (∀ V, Below w8.heap.size w8 V → V.cell? ⟨w6.heap.size, 0, none⟩ = some (.int .i64 3) ∧ V.cell? ⟨w6.heap.size, 1, none⟩ = some (.bool false) ∧ V.cell? ⟨w6.heap.size, 2, none⟩ = some (.slice none 0 0) ∧ V.cell? ⟨w6.heap.size, 3, none⟩ = some (.slice none 0 0) ∧ V.cell? ⟨w6.heap.size, 4, none⟩ = some (.slice (some ⟨w5.heap.size, 0, none⟩) 2 2)) := hid0 (fun V hV => (rowE (kept hV HRe.out)).1)
  have hs0 := HSk.out _ (Below.refl _ w8).drew
  have HBd := hid0 (Below.refl w8.heap.size w8).drew
  rw [s7] at HM3 HM1
  rw [s2] at hw4 hw5 rB
  rw [s4] at hw6
  clear rE hx hk hb hE hE8 s2 s4 s7
  subst hw2 hw4 hw7
  obtain ⟨⟨a0, a1, a2, a3, a4⟩, _⟩ := rowE rA
  obtain ⟨⟨b0, b1, b2, b3, b4⟩, _⟩ := rowE rB
  clear rA rB
  go_enter Tryd.func7, Tryd.ntmps7
  go_wp2
  go_region_held3 (fun V => V.cell? ⟨w6.heap.size, 0, none⟩ = some (.int .i64 3) ∧ V.cell? ⟨w6.heap.size, 1, none⟩ = some (.bool false) ∧ V.cell? ⟨w6.heap.size, 2, none⟩ = some (.slice none 0 0) ∧ V.cell? ⟨w6.heap.size, 3, none⟩ = some (.slice none 0 0) ∧ V.cell? ⟨w6.heap.size, 4, none⟩ = some (.slice (some ⟨w5.heap.size, 0, none⟩) 2 2))
    (first | assumption)
    (first
      | (go_at_call 16; refine (HCk.out _ HBd.out).mono ?_; rintro r v1 ⟨rfl, hb1⟩; have HB1 := hid0 (Below.later HBd.out hb1); have hs1 := HSk.out _ HB1.out; clear hb1)
      | (go_at_call 9; refine (HM1.out _ HB2.out).mono ?_; rintro r v3 ⟨rfl, hb3⟩; have HB3 := hid0 (Below.later HB2.out hb3); have hs3 := HSk.out _ HB3.out; clear hb3)
      | (go_at_call 9; refine (HM3.out _ HB1.out).mono ?_; rintro r v2 ⟨rfl, hb2⟩; have HB2 := hid0 (Below.later HB1.out hb2); have hs2 := HSk.out _ HB2.out; clear hb2)
      | (go_at_call 18; refine (HEm.out _ HB3.out).mono ?_; rintro r v4 ⟨rfl, hb4⟩; have HB4 := hid0 (Below.later HB3.out hb4); have hs4 := HSk.out _ HB4.out; clear hb4))
  go_wp2
  go_ret
  exact ⟨rfl, Below.later HB8.out HB4.out⟩
end Go.Proofs.YtolnoojbcbdfiaaDoor
namespace Go.Proofs.YtolnoojbcbdfiaaDoor
open Go.RowKit Go.Shelf
theorem ExIs.flat {w : World} {Q : Nat → Prop} {e : Ex} {x : EV} (h : ExIs w Q e x) : ∃ k t a m c b n d g l z, x = ⟨.int .i64 k, .bool t, .slice a m c, .slice b n d, .slice g l z⟩ := by
  cases h with
  | mk k nt N P L a ca b cb c cc vs hN hP lN lP lL hL hR => exact ⟨_, _, _, _, _, _, _, _, _, _, _, rfl⟩
/-- A word as a slice. -/
inductive WV (w : World) : Value → List Kd → Prop
  | none : WV w (.slice none 0 0) []
  | some (g off c : Nat) (l : List Kd) (hc : l.length ≤ c) (h : KA w w.heap.size (some ⟨g, off, none⟩) l) : WV w (.slice (some ⟨g, off, none⟩) l.length c) l
theorem WV.past {w w' : World} {v : Value} {l : List Kd} (h : WV w v l) (hb : Below w.heap.size w w') : WV w' v l := by
  cases h with
  | none => exact .none
  | some g off c _ hc h => exact .some g off c l hc ((h.below hb).up hb.size)
theorem WV.form {w : World} {v : Value} {l : List Kd} (h : WV w v l) : ∃ a c, v = .slice a l.length c ∧ KA w w.heap.size a l := by
  cases h with
  | none => exact ⟨_, _, rfl, KA.none _ _ _⟩
  | some g off c _ hc h => exact ⟨_, c, rfl, h⟩
noncomputable def hitB (a b : Ex) (l : List Kd) (i : Nat) : Bool := mtB a (l.take i) && mtB b (l.drop i)
/-- Is a word cut into two that two expressions match? -/
noncomputable def splitB (a b : Ex) (l : List Kd) : Bool := (List.range (l.length + 1)).any (hitB a b l)
theorem splitB_yes {a b : Ex} {l : List Kd} {i : Nat} (hi : i ≤ l.length) (h : hitB a b l i = true) : splitB a b l = true := by
  unfold splitB
  rw [List.any_eq_true]
  exact ⟨i, List.mem_range.2 (by omega), h⟩
theorem splitB_no {a b : Ex} {l : List Kd} (h : ∀ i, i < l.length + 1 → hitB a b l i = false) : splitB a b l = false := by
  unfold splitB
  rw [List.any_eq_false]
  intro i hi
  rw [h i (List.mem_range.1 hi)]
  exact Bool.false_ne_true
theorem splitB_iff {a b : Ex} (ha : okE a = true) (hb : okE b = true) (l : List Kd) : splitB a b l = true ↔ ∃ i, i ≤ l.length ∧ Mt a (l.take i) ∧ Mt b (l.drop i) := by
  unfold splitB hitB
  rw [List.any_eq_true]
  constructor
  · rintro ⟨i, h1, h2⟩
    rw [Bool.and_eq_true, mtB_iff ha, mtB_iff hb] at h2
    exact ⟨i, by have := List.mem_range.1 h1; omega, h2⟩
  · rintro ⟨i, h1, h2⟩
    exact ⟨i, List.mem_range.2 (by omega), by rw [Bool.and_eq_true, mtB_iff ha, mtB_iff hb]; exact h2⟩
/-- Match of what stands ahead of a cut, and behind it. -/
theorem match_head (e : Ex) (x : EV) (Q : Nat → Prop) (l : List Kd) (g off c i : Nat) (A : Nat → Addr) (w : World) (hl : l.length ≤ 12) (hi : i ≤ l.length) (hx : ExIs w Q e x) (hE : E3 w A) (ha : KA w w.heap.size (some ⟨g, off, none⟩) l) :
    Calls Tryd.prog 9 #[x.v, .slice (some ⟨g, off, none⟩) i c] w fun r w' => r = .returned (.bool (mtB e (l.take i))) ∧ Below w.heap.size w w' := by
  have h := match_at e x Q (l.take i) (some ⟨g, off, none⟩) c A w (by rw [List.length_take]; omega) hx hE (ha.take i)
  rw [List.length_take, Nat.min_eq_left hi] at h
  exact h
theorem match_tail (e : Ex) (x : EV) (Q : Nat → Prop) (l : List Kd) (g off c i : Nat) (A : Nat → Addr) (w : World) (hl : l.length ≤ 12) (hc : l.length ≤ c) (hx : ExIs w Q e x) (hE : E3 w A) (ha : KA w w.heap.size (some ⟨g, off, none⟩) l) :
    Calls Tryd.prog 9 #[x.v, .slice (if c = i then some ⟨g, off, none⟩ else some ⟨g, off + i * 2, none⟩) (l.length - i) (c - i)] w fun r w' => r = .returned (.bool (mtB e (l.drop i))) ∧ Below w.heap.size w w' := by
  have hk : KA w w.heap.size (if c = i then some ⟨g, off, none⟩ else some ⟨g, off + i * 2, none⟩) (l.drop i) := by
    split
    · rw [List.drop_of_length_le (by omega)]
      exact KA.none _ _ _
    · exact ha.drop i
  have h := match_at e x Q (l.drop i) _ (c - i) A w (by rw [List.length_drop]; omega) hx hE hk
  rw [List.length_drop] at h
  exact h
end Go.Proofs.YtolnoojbcbdfiaaDoor
