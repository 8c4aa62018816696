/-
  ExTbM, ExTcM, ExYaM, ExYbM, ExTdM, ExTeW, ExTfW, ExTjW, ExTkW, ExTlM, ExYcW, ExYdM, ExTmW, ExTnM.
-/
import Derived.Test.YtiapefdklojhdaaDoorMpb
import Derived.Test.YtiapefdklojhdaaDoorMpd
import Derived.Maps.AppendAt
import Derived.Deep.RegionHeld3
namespace Go.Proofs.YtiapefdklojhdaaDoor
open Go.RowKit Go.Shelf
def kindT (k : Int) : Nat := 1 + pickN (IntKind.i64.wrap (k - 1)) 7
theorem kindT_le (k : Int) : 1 ≤ kindT k ∧ kindT k ≤ 7 := by
  have := pickN_lt (IntKind.i64.wrap (k - 1)) 7 (by omega)
  unfold kindT
  omega
def leafE (k : Int) (nt : Bool) (N : List ByteArray) (P : List (Int × Int)) : Ex := if kindT k = 1 then .mk 1 false [] [] [] else .mk 2 nt (nmK N 3) (ptK P) []
/-- What glued adds. -/
def gl (k : Int) (e : Ex) : List Ex := if e.kind = k then e.parts else if k = 3 ∧ e.kind = 1 then [] else [e]
def nodeE (k : Int) : List Ex → Ex
  | [] => .mk 1 false [] [] []
  | [x] => x
  | x :: y :: l => .mk k false [] [] (x :: y :: l)
def oneK (k : Nat) : Nat := if k < 5 then 5 else k
def tidyE : Nat → Ex → Ex
  | 0, .mk k nt N P _ => leafE k nt N P
  | _ + 1, .mk k nt N P [] => leafE k nt N P
  | n + 1, .mk k _ _ _ (p :: L) => if kindT k = 3 ∨ kindT k = 4 then nodeE (kindT k) (((p :: L).take 3).flatMap fun x => gl (kindT k) (tidyE n x)) else .mk (oneK (kindT k)) false [] [] [tidyE n p]
/-- An expression that may be, so many levels at most. -/
def WfE : Nat → Ex → Prop
  | 0, _ => False
  | d + 1, .mk k nt N P L => wholeF mayF k nt N P L.length = true ∧ formF k L = true ∧ N.length + P.length ≤ 4 ∧ ∀ p, p ∈ L → WfE d p
theorem WfE.up : ∀ (d : Nat) (e : Ex), WfE d e → WfE (d + 1) e
  | 0, _, h => h.elim
  | d + 1, .mk _ _ _ _ _, h => ⟨h.1, h.2.1, h.2.2.1, fun p hp => WfE.up d p (h.2.2.2 p hp)⟩
theorem WfE.le {d d' : Nat} {e : Ex} (h : WfE d e) (hd : d ≤ d') : WfE d' e := by
  obtain ⟨k, rfl⟩ : ∃ k, d' = d + k := ⟨d' - d, by omega⟩
  clear hd
  induction k with
  | zero => exact h
  | succ k ih => exact WfE.up _ _ ih
mutual
theorem wf_chk : ∀ (e : Ex) (m d n s : Nat), WfE m e → n + e.size ≤ 4000 → d + m ≤ 129 → s + 4 * e.size ≤ 65536 → ∃ s', s' ≤ s + 4 * e.size ∧ chkE mayF e d n s = .ok (n + e.size) s' := fun e m d n s h hn hd hs => by
  match e, m, h with
  | .mk k nt N P L, m + 1, h =>
    obtain ⟨h1, h2, h3, h4⟩ := h
    rw [Ex.size_mk] at hn hs ⊢
    simp only [chkE]
    rw [if_pos ⟨by omega, by omega, by omega⟩, if_pos h1, if_pos h2]
    obtain ⟨s', a, b⟩ := wf_chkL L m (d + 1) (n + 1) (s + (N.length + P.length)) h4 (by omega) (by omega) (by omega)
    exact ⟨s', by omega, by rw [b]; congr 1; omega⟩
theorem wf_chkL : ∀ (L : List Ex) (m d n s : Nat), (∀ p, p ∈ L → WfE m p) → n + Ex.size.sizes L ≤ 4000 → d + m ≤ 129 → s + 4 * Ex.size.sizes L ≤ 65536 → ∃ s', s' ≤ s + 4 * Ex.size.sizes L ∧ chkL mayF L d n s = .ok (n + Ex.size.sizes L) s' := fun L m d n s h hn hd hs => by
  match L with
  | [] => exact ⟨s, by omega, rfl⟩
  | e :: L =>
    rw [sizes_cons] at hn hs ⊢
    simp only [chkL]
    obtain ⟨s1, a1, b1⟩ := wf_chk e m d n s (h e (by simp)) (by omega) hd (by omega)
    rw [b1]
    obtain ⟨s2, a2, b2⟩ := wf_chkL L m d (n + e.size) s1 (fun p hp => h p (by simp [hp])) (by omega) hd (by omega)
    exact ⟨s2, by omega, by simp only []; rw [b2]; congr 1; omega⟩
end
theorem wf_ok {m : Nat} {e : Ex} (h : WfE m e) (hm : m ≤ 128) (hs : e.size ≤ 4000) : okE e = true := by
  obtain ⟨s', _, b⟩ := wf_chk e m 1 0 0 h (by omega) (by omega) (by omega)
  unfold okE
  rw [b]
  rfl
theorem names_may (N : List ByteArray) : nmsF (nmK N 3) = true := by
  unfold nmK nmK nmK nmK
  cases oddN N 0 <;> cases oddN N 1 <;> cases oddN N 2 <;> decide +kernel
theorem points_may (P : List (Int × Int)) : ptsF (ptK P) = true := by
  cases P with
  | nil => rfl
  | cons r P =>
    have h1 := pickN_lt r.1 100 (by omega)
    have h2 := pickN_lt r.2 9 (by omega)
    unfold ptK ptsF
    simp only [ptsGo]
    rw [if_neg (by omega), if_neg (by omega), if_neg (by omega)]
theorem pts_len (P : List (Int × Int)) : (ptK P).length ≤ 1 := by
  cases P with
  | nil => exact Nat.zero_le _
  | cons r P => exact Nat.le_refl _
theorem leaf_wf (k : Int) (nt : Bool) (N : List ByteArray) (P : List (Int × Int)) : WfE 1 (leafE k nt N P) ∧ (leafE k nt N P).size = 1 := by
  have a := nmK_len N 3
  have b := pts_len P
  unfold leafE
  split
  · exact ⟨⟨rfl, rfl, by simp, fun p hp => (by cases hp)⟩, by rw [Ex.size_mk]; rfl⟩
  · refine ⟨⟨?_, rfl, by omega, fun p hp => (by cases hp)⟩, by rw [Ex.size_mk]; rfl⟩
    unfold wholeF mayF
    rw [if_neg (by decide), if_pos rfl, names_may, points_may]
    rfl
theorem set_wf (nt : Bool) (N : List ByteArray) (P : List (Int × Int)) : WfE 1 (.mk 2 nt (nmK N 3) (ptK P) []) ∧ (Ex.mk 2 nt (nmK N 3) (ptK P) []).size = 1 := by
  have a := nmK_len N 3
  have b := pts_len P
  refine ⟨⟨?_, rfl, by omega, fun p hp => (by cases hp)⟩, by rw [Ex.size_mk]; rfl⟩
  unfold wholeF mayF
  rw [if_neg (by decide), if_pos rfl, names_may, points_may]
  rfl
theorem sizes_app (L M : List Ex) : Ex.size.sizes (L ++ M) = Ex.size.sizes L + Ex.size.sizes M := by
  induction L with
  | nil => rw [List.nil_append, Ex.size.sizes]; omega
  | cons e L ih => rw [List.cons_append, sizes_cons, sizes_cons, ih]; omega
theorem gl_size (k : Int) (e : Ex) : Ex.size.sizes (gl k e) ≤ e.size := by
  cases e with
  | mk q nt N P L =>
    unfold gl
    split
    · rw [Ex.size_mk]; exact Nat.le_add_left _ _
    · split
      · exact Nat.zero_le _
      · rw [sizes_cons]; exact Nat.le_refl _
theorem flat_size (k : Int) (f : Ex → Ex) (S : Nat) : ∀ (L : List Ex), (∀ x, x ∈ L → (f x).size ≤ S) → Ex.size.sizes (L.flatMap fun x => gl k (f x)) ≤ L.length * S
  | [], _ => Nat.zero_le _
  | x :: L, h => by
    rw [List.flatMap_cons, sizes_app, List.length_cons, Nat.succ_mul]
    have h1 := gl_size k (f x)
    have h2 := h x (by simp)
    have h3 := flat_size k f S L (fun y hy => h y (by simp [hy]))
    omega
theorem hasK_no {L : List Ex} {q : Int} (h : ∀ p, p ∈ L → p.kind ≠ q) : hasK L q = false := by
  unfold hasK
  rw [List.any_eq_false]
  intro p hp
  simpa using h p hp
theorem no_hasK {L : List Ex} {q : Int} (h : hasK L q = false) : ∀ p, p ∈ L → p.kind ≠ q := by
  unfold hasK at h
  rw [List.any_eq_false] at h
  intro p hp
  simpa using h p hp
/-- A part that a node of such a kind takes. -/
def Fit (d : Nat) (k : Int) (p : Ex) : Prop := WfE d p ∧ p.kind ≠ k ∧ (k = 3 → p.kind ≠ 1)
theorem gl_fit {d : Nat} {k : Int} {e : Ex} (hk : k = 3 ∨ k = 4) (h : WfE d e) : ∀ p, p ∈ gl k e → Fit d k p := by
  match d, e, h with
  | d + 1, .mk q nt N P L, h =>
    intro p hp
    unfold gl at hp
    split at hp
    · rename_i hq
      have hq' : q = k := hq
      have hp' : p ∈ L := hp
      subst hq'
      refine ⟨WfE.up _ _ (h.2.2.2 p hp'), ?_⟩
      have hf := h.2.1
      unfold formF at hf
      rcases hk with rfl | rfl
      · rw [if_pos rfl] at hf
        simp only [Bool.and_eq_true, Bool.not_eq_true', decide_eq_true_eq] at hf
        exact ⟨no_hasK hf.2.1 p hp', fun _ => no_hasK hf.2.2 p hp'⟩
      · rw [if_neg (by decide), if_pos rfl] at hf
        simp only [Bool.and_eq_true, Bool.not_eq_true', decide_eq_true_eq] at hf
        exact ⟨no_hasK hf.2 p hp', fun e => absurd e (by decide)⟩
    · rename_i hq
      split at hp
      · cases hp
      · rename_i h1
        rw [List.mem_singleton.1 hp]
        exact ⟨h, hq, fun e1 e2 => h1 ⟨e1, e2⟩⟩
theorem node_wf {d : Nat} {k : Int} (hk : k = 3 ∨ k = 4) {l : List Ex} (h : ∀ p, p ∈ l → Fit d k p) : WfE (d + 1) (nodeE k l) := by
  match l, h with
  | [], h => exact ⟨rfl, rfl, by simp, fun p hp => (by cases hp)⟩
  | [x], h => exact WfE.up _ _ (h x (by simp)).1
  | x :: y :: l, h =>
    refine ⟨?_, ?_, by simp, fun p hp => (h p hp).1⟩
    · rcases hk with rfl | rfl <;> rfl
    · have h1 := hasK_no (q := k) (fun p hp => (h p hp).2.1)
      unfold formF
      rcases hk with rfl | rfl
      · rw [if_pos rfl, h1, hasK_no (q := 1) (fun p hp => (h p hp).2.2 rfl)]
        simp
      · rw [if_neg (by decide), if_pos rfl, h1]
        simp
theorem node_size (k : Int) (l : List Ex) : (nodeE k l).size ≤ 1 + Ex.size.sizes l := by
  match l with
  | [] => unfold nodeE; rw [Ex.size_mk]; exact Nat.le_refl _
  | [x] => show x.size ≤ _; rw [sizes_cons]; omega
  | x :: y :: l => unfold nodeE; rw [Ex.size_mk]; exact Nat.le_refl _
theorem one_wf {d : Nat} {q : Int} (hq : q = 5 ∨ q = 6 ∨ q = 7) {e : Ex} (h : WfE d e) : WfE (d + 1) (.mk q false [] [] [e]) := by
  refine ⟨?_, ?_, by simp, fun p hp => by rw [List.mem_singleton.1 hp]; exact h⟩
  · rcases hq with rfl | rfl | rfl <;> rfl
  · rcases hq with rfl | rfl | rfl <;> rfl
theorem one_size (q : Int) (e : Ex) : (Ex.mk q false [] [] [e]).size = 1 + e.size := by
  rw [Ex.size_mk, sizes_cons]
  rfl
def szT : Nat → Nat
  | 0 => 1
  | n + 1 => 1 + 3 * szT n
theorem szT_pos : ∀ n, 1 ≤ szT n
  | 0 => Nat.le_refl _
  | n + 1 => by unfold szT; omega
theorem tidy_wf : ∀ (n : Nat) (e : Ex), WfE (n + 1) (tidyE n e) ∧ (tidyE n e).size ≤ szT n
  | 0, .mk k nt N P _ => by
    have h := leaf_wf k nt N P
    unfold tidyE szT
    exact ⟨h.1, by omega⟩
  | n + 1, .mk k nt N P [] => by
    have h := leaf_wf k nt N P
    have h2 := szT_pos (n + 1)
    unfold tidyE
    exact ⟨h.1.le (by omega), by omega⟩
  | n + 1, .mk k nt N P (p :: L) => by
    have hk := kindT_le k
    unfold tidyE szT
    split
    · rename_i h34
      have h34' : ((kindT k : Nat) : Int) = 3 ∨ ((kindT k : Nat) : Int) = 4 := by omega
      refine ⟨node_wf h34' (fun x hx => ?_), ?_⟩
      · obtain ⟨y, _, hy2⟩ := List.mem_flatMap.1 hx
        exact gl_fit h34' (tidy_wf n y).1 x hy2
      · have h1 := node_size (kindT k) (((p :: L).take 3).flatMap fun x => gl (kindT k) (tidyE n x))
        have h2 := flat_size (kindT k) (tidyE n) (szT n) ((p :: L).take 3) (fun x _ => (tidy_wf n x).2)
        have h3 : ((p :: L).take 3).length * szT n ≤ 3 * szT n := Nat.mul_le_mul_right _ (by rw [List.length_take]; omega)
        omega
    · rename_i h34
      have h567 : ((oneK (kindT k) : Nat) : Int) = 5 ∨ ((oneK (kindT k) : Nat) : Int) = 6 ∨ ((oneK (kindT k) : Nat) : Int) = 7 := by
        unfold oneK
        split <;> omega
      refine ⟨one_wf h567 (tidy_wf n p).1, ?_⟩
      rw [one_size]
      have := (tidy_wf n p).2
      have := szT_pos n
      omega
/-- How many parts a node has. -/
theorem parts_le {e : Ex} : e.parts.length ≤ e.size := by
  cases e with
  | mk k nt N P L =>
    rw [Ex.size_mk]
    have := len_le_sizes L
    show L.length ≤ _
    omega
end Go.Proofs.YtiapefdklojhdaaDoor
namespace Go.Proofs.YtiapefdklojhdaaDoor
open Go.RowKit Go.Shelf
theorem mt_none (nt : Bool) (N : List ByteArray) (P : List (Int × Int)) (L : List Ex) (w : List Kd) : Mt (.mk 1 nt N P L) w ↔ w = [] :=
  ⟨fun h => by cases h; rfl, fun h => by rw [h]; exact .none nt N P L⟩
theorem mt_seq_nil (nt : Bool) (N : List ByteArray) (P : List (Int × Int)) (w : List Kd) : Mt (.mk 3 nt N P []) w ↔ w = [] :=
  ⟨fun h => by cases h; rfl, fun h => by rw [h]; exact .seq0 nt N P⟩
theorem mt_seq_cons (nt : Bool) (N : List ByteArray) (P : List (Int × Int)) (e : Ex) (L : List Ex) (w : List Kd) : Mt (.mk 3 nt N P (e :: L)) w ↔ ∃ u v, w = u ++ v ∧ Mt e u ∧ Mt (.mk 3 nt N P L) v := by
  constructor
  · intro h
    cases h with
    | seq1 _ _ _ _ _ u v h1 h2 => exact ⟨u, v, rfl, h1, h2⟩
  · rintro ⟨u, v, rfl, h1, h2⟩
    exact .seq1 nt N P e L u v h1 h2
theorem mt_seq_one (nt : Bool) (N : List ByteArray) (P : List (Int × Int)) (e : Ex) (w : List Kd) : Mt (.mk 3 nt N P [e]) w ↔ Mt e w := by
  rw [mt_seq_cons]
  constructor
  · rintro ⟨u, v, rfl, h1, h2⟩
    rw [(mt_seq_nil nt N P v).1 h2, List.append_nil]
    exact h1
  · exact fun h => ⟨w, [], by simp, h, .seq0 nt N P⟩
theorem mt_seq_app (nt : Bool) (N : List ByteArray) (P : List (Int × Int)) (A B : List Ex) : ∀ (w : List Kd), Mt (.mk 3 nt N P (A ++ B)) w ↔ ∃ u v, w = u ++ v ∧ Mt (.mk 3 nt N P A) u ∧ Mt (.mk 3 nt N P B) v := by
  induction A with
  | nil =>
    intro w
    rw [List.nil_append]
    constructor
    · exact fun h => ⟨[], w, rfl, .seq0 nt N P, h⟩
    · rintro ⟨u, v, rfl, h1, h2⟩
      rw [(mt_seq_nil nt N P u).1 h1]
      exact h2
  | cons e A ih =>
    intro w
    rw [List.cons_append, mt_seq_cons]
    constructor
    · rintro ⟨u, v, rfl, h1, h2⟩
      obtain ⟨u2, v2, rfl, h3, h4⟩ := (ih v).1 h2
      exact ⟨u ++ u2, v2, by rw [List.append_assoc], .seq1 nt N P e A u u2 h1 h3, h4⟩
    · rintro ⟨u, v, rfl, h1, h2⟩
      obtain ⟨u1, u2, rfl, h3, h4⟩ := (mt_seq_cons nt N P e A u).1 h1
      exact ⟨u1, u2 ++ v, by rw [List.append_assoc], h3, (ih _).2 ⟨u2, v, rfl, h4, h2⟩⟩
theorem zero_of {nt : Bool} {N : List ByteArray} {P : List (Int × Int)} (h : zeroF nt N P = true) : nt = false ∧ N = [] ∧ P = [] := by
  unfold zeroF at h
  simp only [Bool.and_eq_true, Bool.not_eq_true', beq_iff_eq, List.length_eq_zero_iff] at h
  exact ⟨h.1.1, h.1.2, h.2⟩
theorem mt_gl3 {d : Nat} {e : Ex} (h : WfE d e) (w : List Kd) : Mt (.mk 3 false [] [] (gl 3 e)) w ↔ Mt e w := by
  match d, e, h with
  | d + 1, .mk q nt N P L, h =>
    unfold gl
    split
    · rename_i hq
      have hq' : q = 3 := hq
      subst hq'
      have h1 := h.1
      unfold wholeF at h1
      rw [if_neg (by decide), if_neg (by decide), if_pos (by decide)] at h1
      obtain ⟨rfl, rfl, rfl⟩ := zero_of h1
      exact Iff.rfl
    · split
      · rename_i hq
        have hq' : q = 1 := hq.2
        subst hq'
        rw [mt_seq_nil, mt_none]
      · exact mt_seq_one _ _ _ _ _
theorem mt_node3 (l : List Ex) (w : List Kd) : Mt (nodeE 3 l) w ↔ Mt (.mk 3 false [] [] l) w := by
  match l with
  | [] => unfold nodeE; rw [mt_seq_nil, mt_none]
  | [x] => unfold nodeE; rw [mt_seq_one]
  | x :: y :: l => exact Iff.rfl
/-- One behind the other. -/
theorem mt_two {d d' : Nat} {a b : Ex} (ha : WfE d a) (hb : WfE d' b) (w : List Kd) : Mt (nodeE 3 (gl 3 a ++ gl 3 b)) w ↔ ∃ i, i ≤ w.length ∧ Mt a (w.take i) ∧ Mt b (w.drop i) := by
  rw [mt_node3, mt_seq_app]
  constructor
  · rintro ⟨u, v, rfl, h1, h2⟩
    exact ⟨u.length, by simp, by simpa using (mt_gl3 ha u).1 h1, by simpa using (mt_gl3 hb v).1 h2⟩
  · rintro ⟨i, hi, h1, h2⟩
    exact ⟨w.take i, w.drop i, by simp, (mt_gl3 ha _).2 h1, (mt_gl3 hb _).2 h2⟩
theorem mt_alt (nt : Bool) (N : List ByteArray) (P : List (Int × Int)) (L : List Ex) (w : List Kd) : Mt (.mk 4 nt N P L) w ↔ ∃ e, e ∈ L ∧ Mt e w := by
  constructor
  · intro h
    cases h with
    | alt _ _ _ e _ _ h1 h2 => exact ⟨e, h1, h2⟩
  · rintro ⟨e, h1, h2⟩
    exact .alt nt N P e L w h1 h2
theorem mt_gl4 (e : Ex) (w : List Kd) : (∃ p, p ∈ gl 4 e ∧ Mt p w) ↔ Mt e w := by
  cases e with
  | mk q nt N P L =>
    unfold gl
    split
    · rename_i hq
      have hq' : q = 4 := hq
      subst hq'
      rw [mt_alt]
      exact Iff.rfl
    · rw [if_neg (fun h => absurd h.1 (by decide))]
      exact ⟨fun ⟨p, h1, h2⟩ => by rw [List.mem_singleton.1 h1] at h2; exact h2, fun h => ⟨_, List.mem_singleton.2 rfl, h⟩⟩
/-- One of two. -/
theorem mt_either (a b : Ex) (w : List Kd) : Mt (.mk 4 false [] [] (gl 4 a ++ gl 4 b)) w ↔ Mt a w ∨ Mt b w := by
  rw [mt_alt, ← mt_gl4 a, ← mt_gl4 b]
  constructor
  · rintro ⟨e, h1, h2⟩
    rcases List.mem_append.1 h1 with h | h
    · exact .inl ⟨e, h, h2⟩
    · exact .inr ⟨e, h, h2⟩
  · rintro (⟨e, h1, h2⟩ | ⟨e, h1, h2⟩)
    · exact ⟨e, List.mem_append.2 (.inl h1), h2⟩
    · exact ⟨e, List.mem_append.2 (.inr h1), h2⟩
theorem mt_opt (a : Ex) (w : List Kd) : Mt (.mk 7 false [] [] [a]) w ↔ Mt a w ∨ w = [] := by
  constructor
  · intro h
    cases h with
    | opt0 => exact .inr rfl
    | opt1 _ _ _ _ _ h => exact .inl h
  · rintro (h | rfl)
    · exact .opt1 _ _ _ _ _ h
    · exact .opt0 _ _ _ _
theorem star_cut {x : Ex} {w : List Kd} (h : Mt x w) : ∀ a, x = .mk 5 false [] [] [a] → w = [] ∨ ∃ u v, u ≠ [] ∧ w = u ++ v ∧ Mt a u ∧ Mt (.mk 5 false [] [] [a]) v := by
  induction h with
  | star0 => exact fun _ _ => .inl rfl
  | star1 nt N P e u v h1 h2 _ ih =>
    intro a e1
    cases e1
    by_cases hu : u = []
    · subst hu
      exact ih e rfl
    · exact .inr ⟨u, v, hu, rfl, h1, h2⟩
  | none => intro a e; cases e
  | set => intro a e; cases e
  | seq0 => intro a e; cases e
  | seq1 => intro a e; cases e
  | alt => intro a e; cases e
  | plus => intro a e; cases e
  | opt0 => intro a e; cases e
  | opt1 => intro a e; cases e
theorem mt_star (a : Ex) (w : List Kd) : Mt (.mk 5 false [] [] [a]) w ↔ w = [] ∨ ∃ i, 1 ≤ i ∧ i ≤ w.length ∧ Mt a (w.take i) ∧ Mt (.mk 5 false [] [] [a]) (w.drop i) := by
  constructor
  · intro h
    rcases star_cut h a rfl with h | ⟨u, v, hu, rfl, h1, h2⟩
    · exact .inl h
    · exact .inr ⟨u.length, List.length_pos_iff.2 hu, by simp, by simpa using h1, by simpa using h2⟩
  · rintro (rfl | ⟨i, _, _, h1, h2⟩)
    · exact .star0 _ _ _ _
    · rw [← List.take_append_drop i w]
      exact .star1 _ _ _ _ _ _ h1 h2
theorem mt_plus (a : Ex) (w : List Kd) : Mt (.mk 6 false [] [] [a]) w ↔ ∃ i, i ≤ w.length ∧ Mt a (w.take i) ∧ Mt (.mk 5 false [] [] [a]) (w.drop i) := by
  constructor
  · intro h
    cases h with
    | plus _ _ _ _ u v h1 h2 => exact ⟨u.length, by simp, by simpa using h1, by simpa using h2⟩
  · rintro ⟨i, _, h1, h2⟩
    rw [← List.take_append_drop i w]
    exact .plus _ _ _ _ _ _ h1 h2
theorem mt_set (nt : Bool) (N : List ByteArray) (P : List (Int × Int)) (L : List Ex) (w : List Kd) : Mt (.mk 2 nt N P L) w ↔ ∃ u, w = [u] ∧ holdsF nt N P u.1 u.2 = true := by
  constructor
  · intro h
    cases h with
    | set _ _ _ _ u h => exact ⟨u, rfl, h⟩
  · rintro ⟨u, rfl, h⟩
    exact .set _ _ _ _ _ h
end Go.Proofs.YtiapefdklojhdaaDoor
namespace Go.Proofs.YtiapefdklojhdaaDoor
open Go.RowKit Go.Shelf
mutual
/-- An expression with a trail behind each set. -/
def wovE (t : Ex) : Ex → Ex
  | .mk k nt N P L => if k = 2 then .mk 3 false [] [] [.mk k nt N P L, t] else if k = 3 then .mk 3 false [] [] (wovR t L) else .mk k false [] [] (wovL t L)
def wovL (t : Ex) : List Ex → List Ex
  | [] => []
  | e :: L => wovE t e :: wovL t L
def wovR (t : Ex) : List Ex → List Ex
  | [] => []
  | e :: L => (if e.kind = 2 then [e, t] else [wovE t e]) ++ wovR t L
end
theorem wovL_map (t : Ex) (L : List Ex) : wovL t L = L.map (wovE t) := by
  induction L with
  | nil => rfl
  | cons e L ih => rw [wovL, ih, List.map_cons]
theorem wovR_flat (t : Ex) (L : List Ex) : wovR t L = L.flatMap fun e => if e.kind = 2 then [e, t] else [wovE t e] := by
  induction L with
  | nil => rfl
  | cons e L ih => rw [wovR, ih, List.flatMap_cons]
/-- The trail. -/
def trailE (nt : Bool) (N : List ByteArray) (P : List (Int × Int)) : Ex := .mk 5 false [] [] [.mk 2 nt N P []]
theorem trail_size (nt : Bool) (N : List ByteArray) (P : List (Int × Int)) : (trailE nt N P).size = 2 := by
  unfold trailE
  rw [one_size, Ex.size_mk]
  rfl
mutual
theorem wov_size (t : Ex) (ht : t.size = 2) : ∀ (e : Ex), (wovE t e).size ≤ 4 * e.size
  | .mk k nt N P L => by
    have h1 := wovL_size t ht L
    have h2 := wovR_size t ht L
    rw [wovE]
    split
    · rw [Ex.size_mk, sizes_cons, sizes_cons, ht, Ex.size_mk]
      show 1 + (1 + Ex.size.sizes L + (2 + 0)) ≤ _
      omega
    · split
      · rw [Ex.size_mk, Ex.size_mk]
        omega
      · rw [Ex.size_mk, Ex.size_mk]
        omega
theorem wovL_size (t : Ex) (ht : t.size = 2) : ∀ (L : List Ex), Ex.size.sizes (wovL t L) ≤ 4 * Ex.size.sizes L
  | [] => Nat.le_refl _
  | e :: L => by
    have h1 := wov_size t ht e
    have h2 := wovL_size t ht L
    rw [wovL, sizes_cons, sizes_cons]
    omega
theorem wovR_size (t : Ex) (ht : t.size = 2) : ∀ (L : List Ex), Ex.size.sizes (wovR t L) ≤ 4 * Ex.size.sizes L
  | [] => Nat.le_refl _
  | e :: L => by
    have h1 := wov_size t ht e
    have h2 := wovR_size t ht L
    have h3 : 1 ≤ e.size := by
      cases e with
      | mk k nt N P M => rw [Ex.size_mk]; omega
    rw [wovR, sizes_app, sizes_cons]
    split
    · rw [sizes_cons, sizes_cons, ht]
      show e.size + (2 + 0) + _ ≤ _
      omega
    · rw [sizes_cons]
      show (wovE t e).size + 0 + _ ≤ _
      omega
end
theorem wov_kind (t e : Ex) (h : e.kind ≠ 2) : (wovE t e).kind = e.kind := by
  cases e with
  | mk k nt N P L =>
    have h' : k ≠ 2 := h
    rw [wovE, if_neg h']
    split
    · rename_i hk
      exact hk.symm
    · rfl
theorem wov_kind2 (t e : Ex) (h : e.kind = 2) : (wovE t e).kind = 3 := by
  cases e with
  | mk k nt N P L =>
    have h' : k = 2 := h
    rw [wovE, if_pos h']
    rfl
theorem trail_wf {nt : Bool} {N : List ByteArray} {P : List (Int × Int)} (h : mayF N P = true) (hl : N.length + P.length ≤ 4) : WfE 2 (trailE nt N P) := by
  refine one_wf (.inl rfl) ⟨?_, rfl, hl, fun p hp => (by cases hp)⟩
  unfold wholeF
  rw [if_neg (by decide), if_pos rfl, h]
  rfl
theorem wovR_len (t : Ex) (L : List Ex) : L.length ≤ (wovR t L).length := by
  induction L with
  | nil => exact Nat.le_refl _
  | cons e L ih =>
    rw [wovR, List.length_append, List.length_cons]
    split
    · simp only [List.length_cons, List.length_nil]; omega
    · simp only [List.length_cons, List.length_nil]; omega
theorem row_wf {d : Nat} {l : List Ex} (h2 : 2 ≤ l.length) (h : ∀ p, p ∈ l → Fit d 3 p) : WfE (d + 1) (.mk 3 false [] [] l) := by
  have hn := node_wf (.inl rfl) h
  match l, h2, hn with
  | x :: y :: l, _, hn => exact hn
/-- It may be, two levels deeper. -/
theorem wov_wf {t : Ex} (ht : WfE 2 t) (hk : t.kind = 5) : ∀ (d : Nat) (e : Ex), WfE d e → WfE (d + 2) (wovE t e)
  | 0, _, h => h.elim
  | d + 1, .mk k nt N P L, h => by
    have h0 := h
    obtain ⟨h1, h2, h3, h4⟩ := h
    rw [wovE]
    split
    · rename_i hk2
      subst hk2
      refine row_wf (by simp) (fun p hp => ?_)
      simp only [List.mem_cons, List.not_mem_nil, or_false] at hp
      rcases hp with rfl | rfl
      · exact ⟨h0.le (by omega), (show (2 : Int) ≠ 3 by decide), fun _ => (show (2 : Int) ≠ 1 by decide)⟩
      · exact ⟨ht.le (by omega), by rw [hk]; decide, fun _ => by rw [hk]; decide⟩
    · rename_i hk2
      split
      · rename_i hk3
        subst hk3
        unfold formF at h2
        rw [if_pos rfl] at h2
        simp only [Bool.and_eq_true, Bool.not_eq_true', decide_eq_true_eq] at h2
        have hlen := wovR_len t L
        refine row_wf (by omega) (fun p hp => ?_)
        rw [wovR_flat] at hp
        obtain ⟨x, hx, hp⟩ := List.mem_flatMap.1 hp
        have n3 := no_hasK h2.2.1 x hx
        have n1 := no_hasK h2.2.2 x hx
        split at hp
        · rename_i hx2
          simp only [List.mem_cons, List.not_mem_nil, or_false] at hp
          rcases hp with rfl | rfl
          · exact ⟨(h4 p hx).le (by omega), n3, fun _ => n1⟩
          · exact ⟨ht.le (by omega), by rw [hk]; decide, fun _ => by rw [hk]; decide⟩
        · rename_i hx2
          rw [List.mem_singleton.1 hp]
          exact ⟨wov_wf ht hk d x (h4 x hx), by rw [wov_kind t x hx2]; exact n3, fun _ => by rw [wov_kind t x hx2]; exact n1⟩
      · rename_i hk3
        have hl : (wovL t L).length = L.length := by rw [wovL_map, List.length_map]
        refine ⟨?_, ?_, by simp, fun p hp => ?_⟩
        · rw [hl]
          unfold wholeF at h1 ⊢
          rw [if_neg hk2] at h1 ⊢
          split at h1
          · rename_i hk1
            rw [if_pos hk1]
            simp only [Bool.and_eq_true] at h1
            rw [h1.1]
            rfl
          · rename_i hk1
            rw [if_neg hk1]
            split at h1
            · rename_i hk4
              rw [if_pos hk4]
              rfl
            · rename_i hk4
              rw [if_neg hk4]
              split at h1
              · rename_i hk5
                rw [if_pos hk5]
                simp only [Bool.and_eq_true] at h1
                rw [h1.1]
                rfl
              · cases h1
        · unfold formF at h2 ⊢
          rw [if_neg hk3] at h2 ⊢
          split at h2
          · rename_i hk4
            rw [if_pos hk4, hl]
            simp only [Bool.and_eq_true, Bool.not_eq_true', decide_eq_true_eq] at h2 ⊢
            refine ⟨h2.1, hasK_no (fun p hp => ?_)⟩
            rw [wovL_map] at hp
            obtain ⟨x, hx, rfl⟩ := List.mem_map.1 hp
            by_cases hx2 : x.kind = 2
            · rw [wov_kind2 t x hx2]; decide
            · rw [wov_kind t x hx2]; exact no_hasK h2.2 x hx
          · rename_i hk4
            rw [if_neg hk4]
        · rw [wovL_map] at hp
          obtain ⟨x, hx, rfl⟩ := List.mem_map.1 hp
          exact wov_wf ht hk d x (h4 x hx)
/-- Units passed over: none ahead of the first that is left. -/
inductive Sk (H : Kd → Bool) : List Kd → List Kd → Prop
  | nil : Sk H [] []
  | cons (u : Kd) (v g w : List Kd) : (∀ x, x ∈ g → H x = true) → Sk H v w → Sk H (u :: v) (u :: (g ++ w))
theorem Sk.app {H : Kd → Bool} {v1 w1 : List Kd} (h : Sk H v1 w1) : ∀ {v2 w2 : List Kd}, Sk H v2 w2 → Sk H (v1 ++ v2) (w1 ++ w2) := by
  induction h with
  | nil => exact fun h2 => h2
  | cons u v g w hg _ ih =>
    intro v2 w2 h2
    rw [List.cons_append, List.cons_append, List.append_assoc]
    exact .cons u _ g _ hg (ih h2)
theorem Sk.split {H : Kd → Bool} : ∀ (v1 : List Kd) {v2 w : List Kd}, Sk H (v1 ++ v2) w → ∃ w1 w2, w = w1 ++ w2 ∧ Sk H v1 w1 ∧ Sk H v2 w2
  | [], v2, w, h => ⟨[], w, rfl, .nil, h⟩
  | u :: v1, v2, w, h => by
    rw [List.cons_append] at h
    cases h with
    | cons _ _ g w' hg h2 =>
      obtain ⟨w1, w2, rfl, q1, q2⟩ := Sk.split v1 h2
      exact ⟨u :: (g ++ w1), w2, by simp, .cons u v1 g w1 hg q1, q2⟩
theorem mt_trail (nt : Bool) (N : List ByteArray) (P : List (Int × Int)) (w : List Kd) : Mt (trailE nt N P) w ↔ ∀ x, x ∈ w → holdsF nt N P x.1 x.2 = true := by
  unfold trailE
  induction w with
  | nil => exact ⟨fun _ x hx => (by cases hx), fun _ => .star0 _ _ _ _⟩
  | cons u w ih =>
    rw [mt_star]
    constructor
    · rintro (h | ⟨i, h1, h2, h3, h4⟩)
      · cases h
      · obtain ⟨y, e, hy⟩ := (mt_set _ _ _ _ _).1 h3
        obtain ⟨j, rfl⟩ : ∃ j, i = j + 1 := ⟨i - 1, by omega⟩
        rw [List.take_succ_cons] at e
        simp only [List.cons.injEq] at e
        obtain ⟨rfl, e2⟩ := e
        have hj : j = 0 ∨ w = [] := by
          cases w with
          | nil => exact .inr rfl
          | cons a w => exact .inl (by cases j with | zero => rfl | succ j => rw [List.take_succ_cons] at e2; cases e2)
        have hd : (u :: w).drop (j + 1) = w := by
          rcases hj with rfl | rfl
          · rfl
          · simp
        rw [hd] at h4
        intro x hx
        rcases List.mem_cons.1 hx with rfl | hx
        · exact hy
        · exact (ih.1 h4) x hx
    · intro h
      refine .inr ⟨1, Nat.le_refl _, by simp, (mt_set _ _ _ _ _).2 ⟨u, rfl, h u (by simp)⟩, ?_⟩
      exact ih.2 (fun x hx => h x (by simp [hx]))
end Go.Proofs.YtiapefdklojhdaaDoor
namespace Go.Proofs.YtiapefdklojhdaaDoor
open Go.RowKit Go.Shelf
section
variable (nt : Bool) (N : List ByteArray) (P : List (Int × Int))
def hdF (x : Kd) : Bool := holdsF nt N P x.1 x.2
theorem wov_set (e : Ex) (h : e.kind = 2) (t : Ex) : wovE t e = .mk 3 false [] [] [e, t] := by
  cases e with
  | mk k a b c d =>
    have h' : k = 2 := h
    rw [wovE, if_pos h']
theorem sk_one {x : Kd} {g : List Kd} (h : ∀ y, y ∈ g → hdF nt N P y = true) : Sk (hdF nt N P) [x] (x :: g) := by
  have := Sk.cons x [] g [] h .nil
  rwa [List.append_nil] at this
theorem part_mt (e : Ex) (w : List Kd) : Mt (.mk 3 false [] [] (if e.kind = 2 then [e, trailE nt N P] else [wovE (trailE nt N P) e])) w ↔ Mt (wovE (trailE nt N P) e) w := by
  by_cases h : e.kind = 2
  · rw [if_pos h, wov_set e h]
  · rw [if_neg h, mt_seq_one]
theorem row_to : ∀ (L : List Ex), (∀ p, p ∈ L → ∀ w, Mt (wovE (trailE nt N P) p) w → ∃ v, Mt p v ∧ Sk (hdF nt N P) v w) → ∀ (a : Bool) (b : List ByteArray) (c : List (Int × Int)) (w : List Kd), Mt (.mk 3 false [] [] (wovR (trailE nt N P) L)) w → ∃ v, Mt (.mk 3 a b c L) v ∧ Sk (hdF nt N P) v w
  | [], _, a, b, c, w, h => by
    rw [wovR, mt_seq_nil] at h
    subst h
    exact ⟨[], .seq0 a b c, .nil⟩
  | e :: L, ih, a, b, c, w, h => by
    rw [wovR, mt_seq_app] at h
    obtain ⟨u, v, rfl, h1, h2⟩ := h
    obtain ⟨v1, q1, s1⟩ := ih e (by simp) u ((part_mt nt N P e u).1 h1)
    obtain ⟨v2, q2, s2⟩ := row_to L (fun p hp => ih p (by simp [hp])) a b c v h2
    exact ⟨v1 ++ v2, .seq1 a b c e L v1 v2 q1 q2, s1.app s2⟩
theorem star_to (p : Ex) (ih : ∀ w, Mt (wovE (trailE nt N P) p) w → ∃ v, Mt p v ∧ Sk (hdF nt N P) v w) (a : Bool) (b : List ByteArray) (c : List (Int × Int)) : ∀ (n : Nat) (w : List Kd), w.length ≤ n → Mt (.mk 5 false [] [] [wovE (trailE nt N P) p]) w → ∃ v, Mt (.mk 5 a b c [p]) v ∧ Sk (hdF nt N P) v w := by
  intro n
  induction n with
  | zero =>
    intro w hn _
    have : w = [] := List.length_eq_zero_iff.1 (by omega)
    subst this
    exact ⟨[], .star0 a b c [p], .nil⟩
  | succ n ihn =>
    intro w hn h
    rcases (mt_star _ _).1 h with rfl | ⟨i, h1, h2, h3, h4⟩
    · exact ⟨[], .star0 a b c [p], .nil⟩
    · obtain ⟨v1, q1, s1⟩ := ih _ h3
      obtain ⟨v2, q2, s2⟩ := ihn (w.drop i) (by rw [List.length_drop]; omega) h4
      refine ⟨v1 ++ v2, .star1 a b c p v1 v2 q1 q2, ?_⟩
      have := s1.app s2
      rwa [List.take_append_drop] at this
theorem wov_to : ∀ (d : Nat) (e : Ex), WfE d e → ∀ w, Mt (wovE (trailE nt N P) e) w → ∃ v, Mt e v ∧ Sk (hdF nt N P) v w
  | 0, _, h, _, _ => h.elim
  | d + 1, .mk k a b c L, h, w, hm => by
    obtain ⟨h1, h2, h3, h4⟩ := h
    have ih : ∀ p, p ∈ L → ∀ w, Mt (wovE (trailE nt N P) p) w → ∃ v, Mt p v ∧ Sk (hdF nt N P) v w := fun p hp => wov_to d p (h4 p hp)
    rw [wovE] at hm
    by_cases k2 : k = 2
    · subst k2
      rw [if_pos rfl, mt_seq_cons] at hm
      obtain ⟨u, v, rfl, q1, q2⟩ := hm
      rw [mt_seq_one, mt_trail] at q2
      obtain ⟨x, rfl, _⟩ := (mt_set _ _ _ _ _).1 q1
      exact ⟨[x], q1, sk_one nt N P q2⟩
    · rw [if_neg k2] at hm
      by_cases k3 : k = 3
      · subst k3
        rw [if_pos rfl] at hm
        exact row_to nt N P L ih a b c w hm
      · rw [if_neg k3, wovL_map] at hm
        unfold wholeF at h1
        by_cases k1 : k = 1
        · subst k1
          rw [mt_none] at hm
          subst hm
          exact ⟨[], .none a b c L, .nil⟩
        · rw [if_neg k1, if_neg k2] at h1
          by_cases k4 : k = 4
          · subst k4
            obtain ⟨p', hp', q⟩ := (mt_alt _ _ _ _ _).1 hm
            obtain ⟨p, hp, rfl⟩ := List.mem_map.1 hp'
            obtain ⟨v, q1, q2⟩ := ih p hp w q
            exact ⟨v, .alt a b c p L v hp q1, q2⟩
          · rw [if_neg (by omega)] at h1
            by_cases k5 : k = 5 ∨ k = 6 ∨ k = 7
            · rw [if_pos k5] at h1
              simp only [Bool.and_eq_true, beq_iff_eq] at h1
              obtain ⟨p, rfl⟩ := List.length_eq_one_iff.1 h1.1
              rw [List.map_singleton] at hm
              have ihp := ih p (by simp)
              rcases k5 with rfl | rfl | rfl
              · exact star_to nt N P p ihp a b c w.length w (Nat.le_refl _) hm
              · obtain ⟨i, hi, q1, q2⟩ := (mt_plus _ _).1 hm
                obtain ⟨v1, r1, s1⟩ := ihp _ q1
                obtain ⟨v2, r2, s2⟩ := star_to nt N P p ihp a b c _ _ (Nat.le_refl _) q2
                refine ⟨v1 ++ v2, .plus a b c p v1 v2 r1 r2, ?_⟩
                have := s1.app s2
                rwa [List.take_append_drop] at this
              · rcases (mt_opt _ _).1 hm with q | rfl
                · obtain ⟨v, r, s⟩ := ihp w q
                  exact ⟨v, .opt1 a b c p v r, s⟩
                · exact ⟨[], .opt0 a b c [p], .nil⟩
            · rw [if_neg k5] at h1
              cases h1
theorem sk_nil {w : List Kd} (h : Sk (hdF nt N P) [] w) : w = [] := by
  cases h
  rfl
theorem wov_from {e : Ex} {v : List Kd} (h : Mt e v) : ∀ w, Sk (hdF nt N P) v w → Mt (wovE (trailE nt N P) e) w := by
  induction h with
  | none a b c L =>
    intro w hs
    rw [sk_nil nt N P hs, wovE, if_neg (by decide), if_neg (by decide)]
    exact .none _ _ _ _
  | set a b c L u hu =>
    intro w hs
    rw [wovE, if_pos rfl]
    cases hs with
    | cons _ _ g w' hg h2 =>
      rw [sk_nil nt N P h2, List.append_nil]
      exact (mt_seq_cons _ _ _ _ _ _).2 ⟨[u], g, rfl, .set a b c L u hu, (mt_seq_one _ _ _ _ _).2 ((mt_trail nt N P g).2 hg)⟩
  | seq0 a b c =>
    intro w hs
    rw [sk_nil nt N P hs, wovE, if_neg (by decide), if_pos rfl, wovR]
    exact .seq0 _ _ _
  | seq1 a b c e L u v h1 h2 ih1 ih2 =>
    intro w hs
    obtain ⟨w1, w2, rfl, s1, s2⟩ := Sk.split u hs
    have q2 := ih2 w2 s2
    rw [wovE, if_neg (by decide), if_pos rfl] at q2 ⊢
    rw [wovR]
    exact (mt_seq_app _ _ _ _ _ _).2 ⟨w1, w2, rfl, (part_mt nt N P e w1).2 (ih1 w1 s1), q2⟩
  | alt a b c e L u hm h1 ih =>
    intro w hs
    rw [wovE, if_neg (by decide), if_neg (by decide), wovL_map]
    exact .alt _ _ _ (wovE (trailE nt N P) e) _ _ (List.mem_map_of_mem hm) (ih w hs)
  | star0 a b c L =>
    intro w hs
    rw [sk_nil nt N P hs, wovE, if_neg (by decide), if_neg (by decide)]
    exact .star0 _ _ _ _
  | star1 a b c e u v h1 h2 ih1 ih2 =>
    intro w hs
    obtain ⟨w1, w2, rfl, s1, s2⟩ := Sk.split u hs
    have q2 := ih2 w2 s2
    rw [wovE, if_neg (by decide), if_neg (by decide)] at q2 ⊢
    exact .star1 _ _ _ _ _ _ (ih1 w1 s1) q2
  | plus a b c e u v h1 h2 ih1 ih2 =>
    intro w hs
    obtain ⟨w1, w2, rfl, s1, s2⟩ := Sk.split u hs
    have q2 := ih2 w2 s2
    rw [wovE, if_neg (by decide), if_neg (by decide)] at q2 ⊢
    exact .plus _ _ _ _ _ _ (ih1 w1 s1) q2
  | opt0 a b c L =>
    intro w hs
    rw [sk_nil nt N P hs, wovE, if_neg (by decide), if_neg (by decide)]
    exact .opt0 _ _ _ _
  | opt1 a b c e u h1 ih =>
    intro w hs
    rw [wovE, if_neg (by decide), if_neg (by decide)]
    exact .opt1 _ _ _ _ _ (ih w hs)
/-- Just those words are met from which such units can be taken away. -/
theorem mt_wov {d : Nat} {e : Ex} (h : WfE d e) (w : List Kd) : Mt (wovE (trailE nt N P) e) w ↔ ∃ v, Mt e v ∧ Sk (hdF nt N P) v w :=
  ⟨wov_to nt N P d e h w, fun ⟨_, h1, h2⟩ => wov_from nt N P h1 w h2⟩
end
/-- What a pattern of bits leaves of a word, and what it takes away. -/
def leftL : List Kd → Nat → List Kd
  | [], _ => []
  | u :: w, b => if b % 2 = 1 then leftL w (b / 2) else u :: leftL w (b / 2)
def goneL : List Kd → Nat → List Kd
  | [], _ => []
  | u :: w, b => if b % 2 = 1 then u :: goneL w (b / 2) else goneL w (b / 2)
theorem sk_bits {H : Kd → Bool} : ∀ (w : List Kd) (g : List Kd) (v : List Kd), (∃ g' w', w = g' ++ w' ∧ (∀ x, x ∈ g' → H x = true) ∧ Sk H v w') → ∃ b, b < 2 ^ w.length ∧ (∀ x, x ∈ goneL w b → H x = true) ∧ leftL w b = v
  | [], _, v, ⟨g', w', e, _, hs⟩ => by
    have := List.append_eq_nil_iff.1 e.symm
    obtain ⟨rfl, rfl⟩ := this
    cases hs
    exact ⟨0, by simp, fun x hx => (by cases hx), rfl⟩
  | u :: w, g, v, ⟨g', w', e, hg, hs⟩ => by
    cases g' with
    | cons y g' =>
      rw [List.cons_append] at e
      cases e
      obtain ⟨b, h1, h2, h3⟩ := sk_bits (g' ++ w') g v ⟨g', w', rfl, fun x hx => hg x (by simp [hx]), hs⟩
      refine ⟨2 * b + 1, by rw [List.length_cons, Nat.pow_succ]; omega, fun x hx => ?_, ?_⟩
      · rw [goneL, if_pos (by omega), show (2 * b + 1) / 2 = b by omega] at hx
        rcases List.mem_cons.1 hx with rfl | hx
        · exact hg x (by simp)
        · exact h2 x hx
      · rw [leftL, if_pos (by omega), show (2 * b + 1) / 2 = b by omega, h3]
    | nil =>
      rw [List.nil_append] at e
      subst e
      cases hs with
      | cons _ v' g2 w2 hg2 hs2 =>
        obtain ⟨b, h1, h2, h3⟩ := sk_bits (g2 ++ w2) g v' ⟨g2, w2, rfl, hg2, hs2⟩
        refine ⟨2 * b, by rw [List.length_cons, Nat.pow_succ]; omega, fun x hx => ?_, ?_⟩
        · rw [goneL, if_neg (by omega), show 2 * b / 2 = b by omega] at hx
          exact h2 x hx
        · rw [leftL, if_neg (by omega), show 2 * b / 2 = b by omega, h3]
theorem bits_sk {H : Kd → Bool} : ∀ (w : List Kd) (b : Nat), (∀ x, x ∈ goneL w b → H x = true) → ∃ g' w', w = g' ++ w' ∧ (∀ x, x ∈ g' → H x = true) ∧ Sk H (leftL w b) w'
  | [], _, _ => ⟨[], [], rfl, fun x hx => (by cases hx), .nil⟩
  | u :: w, b, h => by
    by_cases hb : b % 2 = 1
    · rw [goneL, if_pos hb] at h
      obtain ⟨g', w', rfl, h1, h2⟩ := bits_sk w (b / 2) (fun x hx => h x (by simp [hx]))
      refine ⟨u :: g', w', rfl, fun x hx => ?_, by rw [leftL, if_pos hb]; exact h2⟩
      rcases List.mem_cons.1 hx with rfl | hx
      · exact h x (by simp)
      · exact h1 x hx
    · rw [goneL, if_neg hb] at h
      obtain ⟨g', w', rfl, h1, h2⟩ := bits_sk w (b / 2) h
      exact ⟨[], u :: (g' ++ w'), rfl, fun x hx => (by cases hx), by rw [leftL, if_neg hb]; exact .cons u _ g' w' h1 h2⟩
/-- As the law asks it: no unit is taken away ahead of all that are left. -/
theorem sk_even {H : Kd → Bool} (w v : List Kd) : Sk H v w ↔ ∃ b, b < 2 ^ w.length ∧ b % 2 = 0 ∧ (∀ x, x ∈ goneL w b → H x = true) ∧ leftL w b = v := by
  cases w with
  | nil =>
    constructor
    · intro h
      cases h
      exact ⟨0, by simp, rfl, fun x hx => (by cases hx), rfl⟩
    · rintro ⟨b, _, _, _, rfl⟩
      exact .nil
  | cons u w =>
    constructor
    · intro h
      cases h with
      | cons _ v' g2 w2 hg2 hs2 =>
        obtain ⟨b, h1, h2, h3⟩ := sk_bits (g2 ++ w2) [] v' ⟨g2, w2, rfl, hg2, hs2⟩
        refine ⟨2 * b, by rw [List.length_cons, Nat.pow_succ]; omega, by omega, fun x hx => ?_, ?_⟩
        · rw [goneL, if_neg (by omega), show 2 * b / 2 = b by omega] at hx
          exact h2 x hx
        · rw [leftL, if_neg (by omega), show 2 * b / 2 = b by omega, h3]
    · rintro ⟨b, h1, h2, h3, rfl⟩
      rw [goneL, if_neg (by omega)] at h3
      obtain ⟨g', w', rfl, q1, q2⟩ := bits_sk w (b / 2) h3
      rw [leftL, if_neg (by omega)]
      exact .cons u _ g' w' q1 q2
end Go.Proofs.YtiapefdklojhdaaDoor
namespace Go.Proofs.YtiapefdklojhdaaDoor
open Go.RowKit Go.Shelf
def evC (x : EV) : List Value := [x.k, x.t, x.n, x.p, x.r]
theorem flatE (xs : List EV) : ∀ (i j : Nat) (h : i < xs.length), j < 5 → (xs.flatMap evC)[i * 5 + j]? = (evC xs[i])[j]? := by
  induction xs with
  | nil => intro i j h; exact absurd h (Nat.not_lt_zero _)
  | cons g xs ih =>
    intro i j h hj
    rw [List.flatMap_cons]
    cases i with
    | zero =>
      rw [Nat.zero_mul, Nat.zero_add, List.getElem?_append_left (by simpa [evC] using hj)]
      rfl
    | succ i =>
      rw [List.getElem?_append_right (by simp [evC]; omega)]
      rw [show (i + 1) * 5 + j - (evC g).length = i * 5 + j by simp [evC]; omega]
      exact ih i j (by simpa using h) hj
/-- A list of expressions in a row of its own; the parts lie elsewhere. -/
structure PE (W : World) (lo : Nat) (Q : Nat → Prop) (v : Value) (L : List Ex) (xs : List EV) : Prop where
  len : xs.length = L.length
  own : W.ownsRow lo 28 5 v L.length (xs.flatMap evC)
  is : ∀ i (h : i < L.length) (h' : i < xs.length), ExIs W (fun b => Q b ∧ v.ownBlock ≠ some b) L[i] xs[i]
theorem PE.nil (W : World) (lo : Nat) (Q : Nat → Prop) : PE W lo Q (.slice none 0 0) [] [] := ⟨rfl, World.ownsRow_nil _ _ _ _, fun _ h => absurd h (Nat.not_lt_zero _)⟩
theorem PE.past {W W' : World} {lo : Nat} {Q : Nat → Prop} {v : Value} {L : List Ex} {xs : List EV} (h : PE W lo Q v L xs) (k : Below W.heap.size W W') : PE W' lo Q v L xs :=
  ⟨h.len, own_blk h.own (fun g hg => k.block g (World.ownsRow.lt h.own g hg).2), fun i h1 h2 => (h.is i h1 h2).past k⟩
/-- A row that grows, maybe into another block; all other blocks stay. -/
structure Gr (W w' : World) (v v' : Value) : Prop where
  grow : W.grownBy w' v.ownBlock
  at' : ∀ q, v'.ownBlock = some q → v.ownBlock = some q ∨ W.heap.size ≤ q
theorem grown_trans {a b c : World} {r r' : Option Nat} (h : a.grownBy b r) (k : b.grownBy c r') (hr : ∀ q, r' = some q → r = some q ∨ a.heap.size ≤ q) : a.grownBy c r :=
  ⟨k.os.trans h.os, k.tape.trans h.tape, k.output.trans h.output, Nat.le_trans h.size k.size, fun i hi hn => (k.block i (Nat.lt_of_lt_of_le hi h.size) (fun e => by
    rcases hr i e.symm with q | q
    · exact hn q.symm
    · omega)).trans (h.block i hi hn)⟩
theorem Gr.of_below {a b : World} (h : Below a.heap.size a b) (v : Value) : Gr a b v v := ⟨⟨h.os, h.tape, h.output, h.size, fun i hi _ => h.block i hi⟩, fun _ e => .inl e⟩
theorem Gr.refl (a : World) (v : Value) : Gr a a v v := Gr.of_below (Below.refl _ _) v
theorem Gr.trans {a b c : World} {v v1 v2 : Value} (h : Gr a b v v1) (k : Gr b c v1 v2) : Gr a c v v2 :=
  ⟨grown_trans h.grow k.grow h.at', fun q e => by
    rcases k.at' q e with q1 | q1
    · exact h.at' q q1
    · exact .inr (Nat.le_trans h.grow.size q1)⟩
theorem Gr.append {a b c : World} {v v2 : Value} (h : Below a.heap.size a b) (hg : b.grownBy c v.ownBlock) (hat : v2.ownBlock = v.ownBlock ∨ v2.ownBlock = some b.heap.size) : Gr a c v v2 :=
  (Gr.of_below h v).trans ⟨hg, fun q e => by
    rcases hat with q1 | q1
    · exact .inl (q1 ▸ e)
    · rw [q1] at e
      cases e
      exact .inr (Nat.le_refl _)⟩
theorem Gr.below {B : Nat} {w a b : World} {v v' : Value} (h : Gr a b v v') (hb : Below B w a) (hB : B ≤ a.heap.size) (hv : ∀ q, v.ownBlock = some q → B ≤ q) : Below B w b := hb.grown h.grow hB hv
theorem ExIs.grow {W w4 : World} {Q : Nat → Prop} {v v4 : Value} {e : Ex} {x : EV} (h : ExIs W (fun b => Q b ∧ v.ownBlock ≠ some b) e x) (g : Gr W w4 v v4) : ExIs w4 (fun b => Q b ∧ v4.ownBlock ≠ some b) e x := by
  have h1 : ExIs W (fun b => (Q b ∧ v.ownBlock ≠ some b) ∧ v4.ownBlock ≠ some b) e x := h.mono (fun b hl hq => ⟨hq, fun e => by
    rcases g.at' b e with q | q
    · exact hq.2 q
    · omega⟩)
  have h2 := h1.keeps (w' := w4) ⟨g.grow.size, fun b o hq hl => World.cell?_of_block (w := W) (g.grow.block b hl (fun e => hq.1.2 e.symm))⟩
  exact h2.mono (fun b _ hq => ⟨hq.1.1, hq.2⟩)
theorem PE.snoc {W w4 : World} {lo : Nat} {Q : Nat → Prop} {v v4 : Value} {L : List Ex} {xs : List EV} {e : Ex} {x : EV} (h : PE W lo Q v L xs) (hx : ExIs W (fun b => Q b ∧ v.ownBlock ≠ some b) e x) (g : Gr W w4 v v4)
    (ho : w4.ownsRow lo 28 5 v4 (L.length + 1) (xs.flatMap evC ++ evC x)) : PE w4 lo Q v4 (L ++ [e]) (xs ++ [x]) := by
  refine ⟨by simp [h.len], ?_, fun k hk hk' => ?_⟩
  · rw [List.length_append, List.length_singleton, List.flatMap_append, List.flatMap_singleton]; exact ho
  · simp only [List.length_append, List.length_singleton] at hk
    rcases Nat.lt_or_ge k L.length with hl | hl
    · have hl2 : k < xs.length := by rw [h.len]; exact hl
      simp only [List.getElem_append_left hl, List.getElem_append_left hl2]
      exact (h.is k hl hl2).grow g
    · have : k = L.length := by omega
      subst this
      have hq : ∀ (hx : L.length < (xs ++ [x]).length), (xs ++ [x])[L.length]'hx = x := fun hx => by
        rw [List.getElem_append_right (by rw [h.len]; exact Nat.le_refl _)]; simp [h.len]
      rw [hq]
      simp only [List.getElem_concat_length]
      exact hx.grow g
theorem PE.form {W : World} {lo : Nat} {Q : Nat → Prop} {v : Value} {L : List Ex} {xs : List EV} (h : PE W lo Q v L xs) : ∃ a c, v = .slice a L.length c := by
  rcases h.own.2 with ⟨rfl, e⟩ | ⟨g, cap', cur, rfl, _⟩
  · exact ⟨none, 0, by rw [e]⟩
  · exact ⟨_, _, rfl⟩
/-- Where the cells of a part lie. -/
theorem PE.cells {W : World} {lo : Nat} {Q : Nat → Prop} {v : Value} {L : List Ex} {xs : List EV} (h : PE W lo Q v L xs) (i : Nat) (hi : i < L.length) (hi' : i < xs.length) : ∃ g c, v = .slice (some ⟨g, 0, none⟩) L.length c ∧ lo ≤ g ∧ Five W g (i * 5) xs[i] := by
  have ho := h.own
  rcases ho.2 with ⟨rfl, hn⟩ | ⟨g, cap, cur, rfl, hg, hrow, _⟩
  · omega
  · refine ⟨g, cap, rfl, hg, ?_⟩
    have hc : ∀ j, j < 5 → W.cell? ⟨g, i * 5 + j, none⟩ = (evC xs[i])[j]? := fun j hj => by
      have h1 := World.ownsRow.cellAt ho (i * 5 + j) (by have : i * 5 + 5 ≤ L.length * 5 := by { have := Nat.mul_le_mul_right 5 (Nat.succ_le_of_lt hi); omega }; omega)
      rw [h1, flatE xs i j hi' hj]
    exact ⟨hc 0 (by omega), hc 1 (by omega), hc 2 (by omega), hc 3 (by omega), hc 4 (by omega)⟩
theorem PE.ex {W : World} {lo : Nat} {Q : Nat → Prop} {v : Value} {L : List Ex} {xs : List EV} (h : PE W lo Q v L xs) (hQ : ∀ g, lo ≤ g → Q g) (hl : L.length ≤ 1000000000) (k : Int) : ∃ c cc, v = .slice c L.length cc ∧ ExIs W Q (.mk k false [] [] L) ⟨.int .i64 k, .bool false, .slice none 0 0, .slice none 0 0, .slice c L.length cc⟩ := by
  obtain ⟨a, c, hv⟩ := h.form
  refine ⟨a, c, hv, .mk k false [] [] L none 0 none 0 a c (fun i => xs.getD i ⟨.nilIface, .nilIface, .nilIface, .nilIface, .nilIface⟩) (SQ.nil _ _ _) (RQ.nil _ _ _) (by simp) (by simp) hl (fun i hi => ?_) (fun i hi => ?_)⟩
  · have hi' : i < xs.length := by rw [h.len]; exact hi
    obtain ⟨g, c', e, hg, h5⟩ := h.cells i hi hi'
    rw [hv] at e
    cases e
    exact ⟨g, 0, rfl, hQ g hg, by rw [List.getD_eq_getElem?_getD, List.getElem?_eq_getElem hi', Nat.zero_add]; exact h5⟩
  · have hi' : i < xs.length := by rw [h.len]; exact hi
    rw [List.getD_eq_getElem?_getD, List.getElem?_eq_getElem hi']
    exact (h.is i hi hi').mono (fun g _ hq => hq.1)
/-- What glued leaves. -/
def GluedR (W : World) (lo : Nat) (Q : Nat → Prop) (v : Value) (L : List Ex) (r : Ending) (w' : World) : Prop := ∃ v' xs, r = .returned v' ∧ PE w' lo Q v' L xs ∧ Gr W w' v v'
end Go.Proofs.YtiapefdklojhdaaDoor
namespace Go.Proofs.YtiapefdklojhdaaDoor
open Go.RowKit Go.Shelf
theorem infoE : (Tryd.prog.info? 28).map (fun i => (i.zero, i.size, i.bytes)) = some (some (.agg #[.int .i64 0, .bool false, .slice none 0 0, .slice none 0 0, .slice none 0 0]), 5, 88) := by kernel_rfl
theorem rowE {W : World} {X : Nat} {t : TypeId} {a b c d e : Value} (h : W.heap[X]? = some (.cells #[a, b, c, d, e] t (0, 0))) : (W.cell? ⟨X, 0, none⟩ = some a ∧ W.cell? ⟨X, 1, none⟩ = some b ∧ W.cell? ⟨X, 2, none⟩ = some c ∧ W.cell? ⟨X, 3, none⟩ = some d ∧ W.cell? ⟨X, 4, none⟩ = some e) ∧ (W.frozen? ⟨X, 0, none⟩ = false ∧ W.frozen? ⟨X, 1, none⟩ = false ∧ W.frozen? ⟨X, 2, none⟩ = false ∧ W.frozen? ⟨X, 3, none⟩ = false ∧ W.frozen? ⟨X, 4, none⟩ = false) :=
  ⟨⟨by rw [cell_of_row _ _ _ _ _ _ h]; rfl, by rw [cell_of_row _ _ _ _ _ _ h]; rfl, by rw [cell_of_row _ _ _ _ _ _ h]; rfl, by rw [cell_of_row _ _ _ _ _ _ h]; rfl, by rw [cell_of_row _ _ _ _ _ _ h]; rfl⟩,
   by simp [World.frozen?, h], by simp [World.frozen?, h], by simp [World.frozen?, h], by simp [World.frozen?, h], by simp [World.frozen?, h]⟩
theorem cellE_new (w : World) (a b c d e : Value) (t : TypeId) : ∀ j u, [a, b, c, d, e][j]? = some u → (w.alloc (.cells #[a, b, c, d, e] t)).cell? ((⟨w.heap.size, 0, none⟩ : Addr).add j) = some u := by
  intro j u h
  rw [Addr.add_mid, cell_of_row _ _ _ _ _ _ (heap_alloc_new w _)]
  simpa using h
theorem ExIs.one {w : World} {Q : Nat → Prop} {e : Ex} {x : EV} (h : ExIs w Q e x) : ∀ u, u ∈ evC x → u.oneCell' = true := by
  cases h with
  | mk k nt N P L a ca b cb c cc vs hN hP lN lP lL hL hR =>
    intro u hu
    unfold evC at hu
    simp only [List.mem_cons, List.not_mem_nil, or_false] at hu
    rcases hu with rfl | rfl | rfl | rfl | rfl <;> rfl
set_option maxRecDepth 10000 in
set_option maxHeartbeats 1600000 in
theorem glued_any (k : Int) (L : List Ex) (xs : List EV) (v : Value) (e : Ex) (x : EV) (Q : Nat → Prop) (lo : Nat) (W : World) (hP : PE W lo Q v L xs) (hx : ExIs W (fun b => Q b ∧ v.ownBlock ≠ some b) e x) (hlo : lo ≤ W.heap.size) (hlen : L.length + e.parts.length ≤ 1000000) :
    Calls Tryd.prog 21 #[v, x.v, .int .i64 k] W fun r w' => GluedR W lo Q v (L ++ gl k e) r w' := by
  obtain ⟨i0, hi, hz0, hz1, hz2⟩ := info_parts infoE
  obtain ⟨q, nt, N, P, M⟩ := e
  have hM : L.length + M.length ≤ 1000000 := hlen
  clear hlen
  obtain ⟨a, ca, b, cb, c, cc, rfl, _, _, _, _, _, vs, hL, hR⟩ := hx.shape
  have HX := hid0 hx
  have HL := hid0 hL
  have HR := hid0 hR
  have HP := hid0 hP
  obtain ⟨av, cv, hv⟩ := hP.form
  subst hv
  obtain ⟨W1, hW1⟩ : ∃ W1, W.alloc (.cells #[.int .i64 q, .bool nt, .slice a N.length ca, .slice b P.length cb, .slice c M.length cc] 28) = W1 := ⟨_, rfl⟩
  have HB1 := hid0 (show Below W.heap.size W W1 by rw [← hW1]; exact (Below.refl _ _).alloc (Nat.le_refl _) _)
  have HS1 := hid0 (show W1.heap.size = W.heap.size + 1 by rw [← hW1]; simp)
  have HR1 := hid0 (show W1.heap[W.heap.size]? = some (.cells #[.int .i64 q, .bool nt, .slice a N.length ca, .slice b P.length cb, .slice c M.length cc] 28 (0, 0)) by rw [← hW1]; exact heap_alloc_new W _)
  have HO1 := hid0 (fun qq (h : (Value.slice av L.length cv).ownBlock = some qq) => (World.ownsRow.lt hP.own qq h).2)
  obtain ⟨⟨x0, x1, x2, x3, x4⟩, _⟩ := rowE HR1.out
  clear hx hL hR hP
  unfold EV.v
  simp only []
  by_cases hq : q = k
  · subst hq
    have HGL : Hid (gl q (.mk q nt N P M) = M) := hid0 (by unfold gl; exact if_pos rfl)
    go_enter Tryd.func21, Tryd.ntmps21
    go_wp2
    clear hW1 x0 x1 x2 x3 x4
    go_loopw [0, 7] (fun v' i wr => ∃ (j : Nat) (ys : List EV), j ≤ M.length ∧ i = .int .i64 (j : Int) ∧ Hid (PE wr lo Q v' (L ++ M.take j) ys) ∧ Hid (Gr W1 wr (.slice av L.length cv) v')) (fun _ i _ => M.length - (intOf i).toNat)
    case atStart => exact ⟨0, xs, Nat.zero_le _, rfl, hid0 (by rw [List.take_zero, List.append_nil]; exact HP.out.past HB1.out), hid0 (Gr.refl _ _)⟩
    case round =>
      obtain ⟨j, ys, hj, rfl, HPj, HG⟩ := hrel
      have HRw := hid0 ((HG.out.grow.block W.heap.size (by have := HS1.out; omega) (fun h => by have := HO1.out _ h.symm; omega)).trans HR1.out)
      obtain ⟨⟨x0, x1, x2, x3, x4⟩, _⟩ := rowE HRw.out
      by_cases hlt : j < M.length
      · have hjI : (j : Int) < (M.length : Int) := by omega
        have hjI0 : (0 : Int) ≤ (j : Int) := by omega
        have HXj := hid0 ((HX.out.past HB1.out).grow HG.out)
        obtain ⟨a', ca', b', cb', c', cc', e', _, _, _, _, _, vs', hL', hR'⟩ := HXj.out.shape
        cases e'
        obtain ⟨g, off, rfl, hgq, h5⟩ := hL' j hlt
        have HRj := hid0 (hR' j hlt)
        have HTK : Hid (L ++ M.take (j + 1) = (L ++ M.take j) ++ [M[j]]) := hid0 (by rw [List.take_add_one, List.getElem?_eq_getElem hlt, List.append_assoc]; rfl)
        have HTL : Hid ((L ++ M.take j).length = L.length + j) := hid0 (by rw [List.length_append, List.length_take]; omega)
        have hvs : ∃ aw cw, u0 = .slice aw (L.length + j) cw := by
          obtain ⟨aw, cw, e⟩ := HPj.out.form
          rw [HTL.out] at e
          exact ⟨aw, cw, e⟩
        obtain ⟨aw, cw, rfl⟩ := hvs
        obtain ⟨y0, y1, y2, y3, y4⟩ := h5
        have HOne := hid0 HRj.out.one
        generalize vs' j = y at *
        generalize M[j] = m at *
        obtain ⟨yk, yt, yn, yp, yr⟩ := y
        have HOk : Hid (wr.ownsRow lo 28 5 (.slice aw (L.length + j) cw) (L.length + j) (ys.flatMap evC)) := hid0 (by have ho := HPj.out.own; rw [HTL.out] at ho; exact ho)
        have hsz : lo ≤ wr.heap.size := by have := HG.out.grow.size; have := HS1.out; omega
        simp only [] at y0 y1 y2 y3 y4
        clear hL' hR' hgq
        go_wp2_with (first
          | (at_builtin; go_loud ((
               refine wpList_append_own_at _ (by rfl) _ _ 26 (by rfl) lo 28 i0 (.agg #[.int .i64 0, .bool false, .slice none 0 0, .slice none 0 0, .slice none 0 0]) 5 88 Tryd.underlying26 hi hz0 hz1 hz2 rfl (by decide) (.slice aw (L.length + j) cw) (L.length + j) (ys.flatMap evC) (by rfl) (World.ownsRow.alloc HOk.out _) ⟨wr.heap.size, 0, none⟩ 1 1 (evC ⟨yk, yt, yn, yp, yr⟩) (by rfl) (by rfl) (cellE_new wr _ _ _ _ _ _) HOne.out (by unfold maxLen; omega) (by omega) (by simp; omega) ?_
               intro v4 w4 hown4 hgrow4 _ hat4
               have HG4 := hid0 (Gr.append ((Below.refl _ wr).alloc (Nat.le_refl _) _) hgrow4 hat4)
               have HP4 := hid0 (PE.snoc HPj.out HRj.out HG4.out (by rw [HTL.out]; exact hown4))
               clear hown4 hgrow4 hat4)))
          | fail)
        go_roundw
        case rel => exact ⟨j + 1, ys ++ [⟨yk, yt, yn, yp, yr⟩], by omega, by go_num, hid0 (by rw [HTK.out]; exact HP4.out), hid0 (HG.out.trans HG4.out)⟩
        case measure => simp [intOf]; omega
      · have hjI : ¬ (j : Int) < (M.length : Int) := by omega
        have HE : Hid (PE wr lo Q u0 (L ++ M) ys) := hid0 (by have h := HPj.out; rw [List.take_of_length_le (by omega)] at h; exact h)
        go_wp2
        go_ret
        exact ⟨u0, ys, rfl, by rw [HGL.out]; exact HE.out, (Gr.of_below HB1.out _).trans HG.out⟩
  · by_cases h31 : k = 3 ∧ q = 1
    · obtain ⟨rfl, rfl⟩ := h31
      go_enter Tryd.func21, Tryd.ntmps21
      go_wp2
      go_ret
      exact ⟨_, xs, rfl, by rw [show gl 3 (.mk 1 nt N P M) = [] from rfl, List.append_nil]; exact HP.out.past HB1.out, Gr.of_below HB1.out _⟩
    · have HGL : Hid (gl k (.mk q nt N P M) = [.mk q nt N P M]) := hid0 (by unfold gl; rw [if_neg (show ¬ Ex.kind (.mk q nt N P M) = k from hq), if_neg (show ¬ (k = 3 ∧ Ex.kind (.mk q nt N P M) = 1) from h31)])
      have HOk : Hid (W1.ownsRow lo 28 5 (.slice av L.length cv) L.length (xs.flatMap evC)) := hid0 (HP.out.past HB1.out).own
      have HOne := hid0 HX.out.one
      have hsz : lo ≤ W1.heap.size := by have := HS1.out; omega
      by_cases hk3 : k = 3
      · have hq1 : ¬ q = 1 := fun h => h31 ⟨hk3, h⟩
        subst hk3
        go_enter Tryd.func21, Tryd.ntmps21
        go_wp2_with (first
          | (at_builtin; go_loud ((
               refine wpList_append_own_at _ (by rfl) _ _ 26 (by rfl) lo 28 i0 (.agg #[.int .i64 0, .bool false, .slice none 0 0, .slice none 0 0, .slice none 0 0]) 5 88 Tryd.underlying26 hi hz0 hz1 hz2 rfl (by decide) (.slice av L.length cv) L.length (xs.flatMap evC) (by rfl) (World.ownsRow.alloc HOk.out _) ⟨W1.heap.size, 0, none⟩ 1 1 (evC ⟨.int .i64 q, .bool nt, .slice a N.length ca, .slice b P.length cb, .slice c M.length cc⟩) (by rfl) (by rfl) (cellE_new W1 _ _ _ _ _ _) HOne.out (by unfold maxLen; omega) (by omega) (by simp; omega) ?_
               intro v4 w4 hown4 hgrow4 _ hat4
               have HG4 := hid0 (Gr.append ((Below.refl _ W1).alloc (Nat.le_refl _) _) hgrow4 hat4)
               have HP4 := hid0 (PE.snoc (HP.out.past HB1.out) (HX.out.past HB1.out) HG4.out hown4)
               clear hown4 hgrow4 hat4)))
          | fail)
        go_ret
        exact ⟨_, _, rfl, by rw [HGL.out]; exact HP4.out, (Gr.of_below HB1.out _).trans HG4.out⟩
      · go_enter Tryd.func21, Tryd.ntmps21
        go_wp2_with (first
          | (at_builtin; go_loud ((
               refine wpList_append_own_at _ (by rfl) _ _ 26 (by rfl) lo 28 i0 (.agg #[.int .i64 0, .bool false, .slice none 0 0, .slice none 0 0, .slice none 0 0]) 5 88 Tryd.underlying26 hi hz0 hz1 hz2 rfl (by decide) (.slice av L.length cv) L.length (xs.flatMap evC) (by rfl) (World.ownsRow.alloc HOk.out _) ⟨W1.heap.size, 0, none⟩ 1 1 (evC ⟨.int .i64 q, .bool nt, .slice a N.length ca, .slice b P.length cb, .slice c M.length cc⟩) (by rfl) (by rfl) (cellE_new W1 _ _ _ _ _ _) HOne.out (by unfold maxLen; omega) (by omega) (by simp; omega) ?_
               intro v4 w4 hown4 hgrow4 _ hat4
               have HG4 := hid0 (Gr.append ((Below.refl _ W1).alloc (Nat.le_refl _) _) hgrow4 hat4)
               have HP4 := hid0 (PE.snoc (HP.out.past HB1.out) (HX.out.past HB1.out) HG4.out hown4)
               clear hown4 hgrow4 hat4)))
          | fail)
        go_ret
        exact ⟨_, _, rfl, by rw [HGL.out]; exact HP4.out, (Gr.of_below HB1.out _).trans HG4.out⟩
end Go.Proofs.YtiapefdklojhdaaDoor
namespace Go.Proofs.YtiapefdklojhdaaDoor
open Go.RowKit Go.Shelf
/-- An expression in memory, its lists of any length. -/
inductive ExIn (w : World) : Ex → EV → Prop
  | mk (k : Int) (nt : Bool) (N : List ByteArray) (P : List (Int × Int)) (L : List Ex) (a : Option Addr) (ca : Nat) (b : Option Addr) (cb : Nat) (c : Option Addr) (cc : Nat) (vs : Nat → EV)
    (hN : SA w a N) (hP : RA w b P) (hL : ∀ i, i < L.length → ∃ g off, c = some ⟨g, off, none⟩ ∧ Five w g (off + i * 5) (vs i)) (hR : ∀ i (h : i < L.length), ExIn w L[i] (vs i)) :
    ExIn w (.mk k nt N P L) ⟨.int .i64 k, .bool nt, .slice a N.length ca, .slice b P.length cb, .slice c L.length cc⟩
theorem Five.past {w w' : World} {g o : Nat} {x : EV} (h : Five w g o x) (hb : Below w.heap.size w w') : Five w' g o x :=
  Five.keeps (Q := fun _ => True) h trivial ⟨hb.size, fun g o _ hl => hb.cell (p := ⟨g, o, none⟩) hl⟩
theorem ExIn.past {w w' : World} (hb : Below w.heap.size w w') {e : Ex} {x : EV} (h : ExIn w e x) : ExIn w' e x := by
  induction h with
  | mk k nt N P L a ca b cb c cc vs hN hP hL hR ih =>
    exact .mk k nt N P L a ca b cb c cc vs (hN.below hb) (hP.below hb) (fun i hi => by
      obtain ⟨g, off, e, h5⟩ := hL i hi
      exact ⟨g, off, e, h5.past hb⟩) ih
theorem ExIn.shape {w : World} {k : Int} {nt : Bool} {N : List ByteArray} {P : List (Int × Int)} {L : List Ex} {x : EV} (h : ExIn w (.mk k nt N P L) x) : ∃ a ca b cb c cc, x = ⟨.int .i64 k, .bool nt, .slice a N.length ca, .slice b P.length cb, .slice c L.length cc⟩ ∧ SA w a N ∧ RA w b P ∧
    ∃ vs : Nat → EV, (∀ i, i < L.length → ∃ g off, c = some ⟨g, off, none⟩ ∧ Five w g (off + i * 5) (vs i)) ∧ ∀ i (h : i < L.length), ExIn w L[i] (vs i) := by
  cases h with
  | mk _ _ _ _ _ a ca b cb c cc vs hN hP hL hR => exact ⟨a, ca, b, cb, c, cc, rfl, hN, hP, vs, hL, hR⟩
/-- An expression that is answered, in memory of its own. -/
def ExR (w : World) (t : Ex) (r : Ending) (w' : World) : Prop := ∃ y : EV, r = .returned y.v ∧ ExIs w' (fun g => w.heap.size ≤ g) t y ∧ Below w.heap.size w w'
theorem ExR.shape {w w' : World} {t : Ex} {r : Ending} (h : ExR w t r w') : ∃ k u a m c b n d g l z, r = .returned (.agg #[.int .i64 k, .bool u, .slice a m c, .slice b n d, .slice g l z]) ∧ ExIs w' (fun g => w.heap.size ≤ g) t ⟨.int .i64 k, .bool u, .slice a m c, .slice b n d, .slice g l z⟩ ∧ Below w.heap.size w w' := by
  obtain ⟨y, e, h1, h2⟩ := h
  cases h1 with
  | mk k nt N P L a ca b cb c cc vs hN hP lN lP lL hL hR => exact ⟨k, nt, a, N.length, ca, b, P.length, cb, c, L.length, cc, e, .mk k nt N P L a ca b cb c cc vs hN hP lN lP lL hL hR, h2⟩
/-- A row of five written over. -/
def setE (W : World) (X : Nat) (a b c d e : Value) : World := ((((W.setCell ⟨X, 0, none⟩ a).setCell ⟨X, 1, none⟩ b).setCell ⟨X, 2, none⟩ c).setCell ⟨X, 3, none⟩ d).setCell ⟨X, 4, none⟩ e
theorem setE_row {W : World} {X : Nat} {t : TypeId} {a0 b0 c0 d0 e0 : Value} (h : W.heap[X]? = some (.cells #[a0, b0, c0, d0, e0] t (0, 0))) (a b c d e : Value) : (setE W X a b c d e).heap[X]? = some (.cells #[a, b, c, d, e] t (0, 0)) := by
  unfold setE
  exact heap_setCell_same _ _ 4 _ _ e (heap_setCell_same _ _ 3 _ _ d (heap_setCell_same _ _ 2 _ _ c (heap_setCell_same _ _ 1 _ _ b (heap_setCell_same _ _ 0 _ _ a h))))
theorem setE_below {B : Nat} {w W : World} {X : Nat} (h : Below B w W) (hX : B ≤ X) (a b c d e : Value) : Below B w (setE W X a b c d e) := by
  unfold setE
  exact ((((h.setCell (p := ⟨X, 0, none⟩) hX a).setCell (p := ⟨X, 1, none⟩) hX b).setCell (p := ⟨X, 2, none⟩) hX c).setCell (p := ⟨X, 3, none⟩) hX d).setCell (p := ⟨X, 4, none⟩) hX e
theorem setE_other {W : World} {X k : Nat} (hk : k ≠ X) (a b c d e : Value) : (setE W X a b c d e).heap[k]? = W.heap[k]? := by
  unfold setE
  rw [Below.heap_setCell _ _ _ k hk, Below.heap_setCell _ _ _ k hk, Below.heap_setCell _ _ _ k hk, Below.heap_setCell _ _ _ k hk, Below.heap_setCell _ _ _ k hk]
theorem setE_size (W : World) (X : Nat) (a b c d e : Value) : (setE W X a b c d e).heap.size = W.heap.size := by unfold setE; simp
/-- A row that is written over keeps what lies in other blocks. -/
theorem setE_keeps {W : World} {X : Nat} (a b c d e : Value) : Keeps (fun g => g ≠ X) W (setE W X a b c d e) := by
  have ho : ∀ g, g ≠ X → (setE W X a b c d e).heap[g]? = W.heap[g]? := fun g hg => setE_other hg a b c d e
  have hs : W.heap.size ≤ (setE W X a b c d e).heap.size := by rw [setE_size]; exact Nat.le_refl _
  generalize setE W X a b c d e = V at *
  exact ⟨hs, fun g o hg _ => World.cell?_of_block (w := W) (ho g hg)⟩
/-- An answer is stored. -/
theorem ret_done {w W : World} {X B : Nat} {t : TypeId} {a0 b0 c0 d0 e0 : Value} {e : Ex} {y : EV} (bel : Below w.heap.size w W) (hX : w.heap.size ≤ X) (hr : W.heap[X]? = some (.cells #[a0, b0, c0, d0, e0] t (0, 0))) (hB : X < B) (hy : ExIs W (fun g => B ≤ g) e y) :
    ∃ V, V = setE W X y.k y.t y.n y.p y.r ∧ V.heap[X]? = some (.cells #[y.k, y.t, y.n, y.p, y.r] t (0, 0)) ∧ ExR w e (.returned y.v) V := by
  refine ⟨_, rfl, setE_row hr _ _ _ _ _, y, rfl, ?_, setE_below bel hX _ _ _ _ _⟩
  have h1 := hy.mono (Q' := fun g => g ≠ X ∧ w.heap.size ≤ g) (fun g _ h => ⟨by omega, by omega⟩)
  have hk := setE_keeps (W := W) (X := X) y.k y.t y.n y.p y.r
  exact (h1.keeps ⟨hk.size, fun g o hg hl => hk.cell g o hg.1 hl⟩).mono (fun g _ h => h.2)
/-- The two blocks that tidy begins with. -/
theorem two_rows (w : World) (t : TypeId) (a b c d e a' b' c' d' e' : Value) (W : World) (hW : W = (w.alloc (.cells #[a, b, c, d, e] t)).alloc (.cells #[a', b', c', d', e'] t)) :
    W.heap[w.heap.size]? = some (.cells #[a, b, c, d, e] t (0, 0)) ∧ W.heap[w.heap.size + 1]? = some (.cells #[a', b', c', d', e'] t (0, 0)) ∧ Below w.heap.size w W ∧ W.heap.size = w.heap.size + 2 := by
  obtain ⟨wa, hwa⟩ : ∃ wa, wa = w.alloc (.cells #[a, b, c, d, e] t) := ⟨_, rfl⟩
  have sa : wa.heap.size = w.heap.size + 1 := by rw [hwa]; simp
  have hW2 : W = wa.alloc (.cells #[a', b', c', d', e'] t) := by rw [hW, hwa]
  refine ⟨?_, ?_, ?_, ?_⟩
  · rw [hW2, Below.heap_alloc wa _ _ (by omega), hwa]; exact heap_alloc_new w _
  · rw [hW2, ← sa]; exact heap_alloc_new wa _
  · rw [hW]; exact ((Below.refl _ _).alloc (Nat.le_refl _) _).alloc (by simp) _
  · rw [hW2]; simp [sa]
theorem empty_is (w : World) (Q : Nat → Prop) : ExIs w Q (.mk 1 false [] [] []) ⟨.int .i64 1, .bool false, .slice none 0 0, .slice none 0 0, .slice none 0 0⟩ :=
  .mk 1 false [] [] [] none 0 none 0 none 0 (fun _ => ⟨.nilIface, .nilIface, .nilIface, .nilIface, .nilIface⟩) (SQ.nil _ _ _) (RQ.nil _ _ _) (by simp) (by simp) (by simp) (fun i hi => absurd hi (Nat.not_lt_zero _)) (fun i hi => absurd hi (Nat.not_lt_zero _))
theorem set_is {w : World} {Q : Nat → Prop} {nt : Bool} {N : List ByteArray} {P : List (Int × Int)} {a b : Option Addr} (ca cb : Nat) (hN : SQ w Q a N) (hP : RQ w Q b P) (lN : N.length ≤ 1000000000) (lP : P.length ≤ 1000000000) : ExIs w Q (.mk 2 nt N P []) ⟨.int .i64 2, .bool nt, .slice a N.length ca, .slice b P.length cb, .slice none 0 0⟩ :=
  .mk 2 nt N P [] a ca b cb none 0 (fun _ => ⟨.nilIface, .nilIface, .nilIface, .nilIface, .nilIface⟩) hN hP lN lP (by simp) (fun i hi => absurd hi (Nat.not_lt_zero _)) (fun i hi => absurd hi (Nat.not_lt_zero _))
set_option maxRecDepth 10000 in
set_option maxHeartbeats 1600000 in
theorem tidy_leaf (n : Nat) (k : Int) (nt : Bool) (N : List ByteArray) (P : List (Int × Int)) (m : Nat) (a b c : Option Addr) (ca cb cc : Nat) (w : World) (hN : SA w a N) (hP : RA w b P) (h0 : m = 0 ∨ n = 0) :
    Calls Tryd.prog 5 #[.agg #[.int .i64 k, .bool nt, .slice a N.length ca, .slice b P.length cb, .slice c m cc], .int .i64 (n : Int)] w fun r w' => ExR w (leafE k nt N P) r w' := by
  obtain ⟨W, hW⟩ : ∃ W, (w.alloc (.cells #[.int .i64 k, .bool nt, .slice a N.length ca, .slice b P.length cb, .slice c m cc] 28)).alloc (.cells #[.int .i64 0, .bool false, .slice none 0 0, .slice none 0 0, .slice none 0 0] 28) = W := ⟨_, rfl⟩
  obtain ⟨hr0, hr1, hb, hs⟩ := two_rows w _ _ _ _ _ _ _ _ _ _ _ W hW.symm
  obtain ⟨⟨x0, x1, x2, x3, x4⟩, _⟩ := rowE hr0
  obtain ⟨⟨y0, y1, y2, y3, y4⟩, f0, f1, f2, f3, f4⟩ := rowE hr1
  have HR1 := hid0 hr1
  have HB := hid0 hb
  have HS := hid0 hs
  have HSA := hid0 (hN.below hb)
  have HRA := hid0 (hP.below hb)
  obtain ⟨pk, hpk⟩ : ∃ pk, pk = pickN (IntKind.i64.wrap (k - 1)) 7 := ⟨_, rfl⟩
  obtain ⟨kq, hkq⟩ : ∃ kq, IntKind.i64.wrap (k - 1) = kq := ⟨_, rfl⟩
  have HPk := hid0 (fun V => pick_at kq 7 (by omega) (by omega) V)
  have hp7 : pk < 7 := by rw [hpk]; exact pickN_lt _ _ (by omega)
  rw [← hkq, ← hpk] at HPk
  rw [hkq] at HPk
  have HKT : Hid (kindT k = 1 + pk) := hid0 (by rw [hpk]; rfl)
  have hadd : IntKind.i64.wrap (1 + (pk : Int)) = 1 + (pk : Int) := by simp [IntKind.wrap, IntKind.bits, IntKind.signed]; omega
  clear hN hP hb hs hr0 hr1 hpk
  by_cases h1 : pk = 0
  · subst h1
    obtain ⟨V, hV, hVr, hR⟩ := ret_done HB.out (Nat.le_succ _) HR1.out (Nat.lt_succ_self _) (empty_is W _)
    simp only [] at hV hVr
    have HLf : Hid (leafE k nt N P = .mk 1 false [] [] []) := hid0 (by unfold leafE; rw [if_pos HKT.out])
    have HR := hid0 hR
    have HVr := hid0 hVr
    clear hR hVr
    unfold setE at hV
    have HV := hid0 hV
    clear hV
    by_cases hm : m = 0
    · subst hm
      go_enter Tryd.func5, Tryd.ntmps5
      go_wp2_with (go_at_call 20; refine (HPk.out _).mono ?_; rintro r w1 ⟨rfl, rfl⟩)
      rw [← HV.out]
      obtain ⟨⟨k0, k1, k2, k3, k4⟩, _⟩ := rowE HVr.out
      exact bodyPost_ret (v := .agg #[.int .i64 1, .bool false, .slice none 0 0, .slice none 0 0, .slice none 0 0]) (by simp [results, Tryd.results5, go_sem, k0, k1, k2, k3, k4]) rfl (by rw [HLf.out]; exact HR.out)
    · have hn : n = 0 := by omega
      subst hn
      have hm0 : ¬ ((m : Int) = 0) := by omega
      go_enter Tryd.func5, Tryd.ntmps5
      go_wp2_with (go_at_call 20; refine (HPk.out _).mono ?_; rintro r w1 ⟨rfl, rfl⟩)
      rw [← HV.out]
      obtain ⟨⟨k0, k1, k2, k3, k4⟩, _⟩ := rowE HVr.out
      exact bodyPost_ret (v := .agg #[.int .i64 1, .bool false, .slice none 0 0, .slice none 0 0, .slice none 0 0]) (by simp [results, Tryd.results5, go_sem, k0, k1, k2, k3, k4]) rfl (by rw [HLf.out]; exact HR.out)
  · have hk1 : ¬ (1 + (pk : Int) = 1) := by omega
    have HLf : Hid (leafE k nt N P = .mk 2 nt (nmK N 3) (ptK P) []) := hid0 (by unfold leafE; rw [if_neg (by have := HKT.out; omega)])
    have HSet := hid0 (fun V (hV : Below W.heap.size W V) => setOf_any nt N P a b ca cb V (HSA.out.below hV) (HRA.out.below hV))
    have key : ∀ (w1 : World) (g h : Option Addr) (ce cf : Nat), SQ w1 (fun b => W.heap.size ≤ b) g (nmK N 3) → RQ w1 (fun b => W.heap.size ≤ b) h (ptK P) → Below W.heap.size W w1 → ∃ V, V = setE w1 (w.heap.size + 1) (.int .i64 2) (.bool nt) (.slice g (nmK N 3).length ce) (.slice h (ptK P).length cf) (.slice none 0 0) ∧
        V.heap[w.heap.size + 1]? = some (.cells #[.int .i64 2, .bool nt, .slice g (nmK N 3).length ce, .slice h (ptK P).length cf, .slice none 0 0] 28 (0, 0)) ∧ ExR w (leafE k nt N P) (.returned (.agg #[.int .i64 2, .bool nt, .slice g (nmK N 3).length ce, .slice h (ptK P).length cf, .slice none 0 0])) V := fun w1 g h ce cf q1 q2 q3 => by
      rw [HLf.out]
      have hd := ret_done (y := ⟨.int .i64 2, .bool nt, .slice g (nmK N 3).length ce, .slice h (ptK P).length cf, .slice none 0 0⟩) (Below.later HB.out q3) (Nat.le_succ _) ((q3.block _ (by have := HS.out; omega)).trans HR1.out) (show w.heap.size + 1 < W.heap.size by have := HS.out; omega) (set_is ce cf q1 q2 (by have := nmK_len N 3; omega) (by have := pts_len P; omega))
      unfold EV.v at hd
      dsimp only at hd
      exact hd
    have HKey := hid0 key
    clear key
    by_cases hm : m = 0
    · subst hm
      go_enter Tryd.func5, Tryd.ntmps5
      go_wp2_with (first
        | (go_at_call 20; refine (HPk.out _).mono ?_; rintro r w1 ⟨rfl, rfl⟩)
        | (go_at_call 6; refine (HSet.out _ (Below.refl _ _)).mono ?_; rintro r w1 ⟨g, ce, h, cf, rfl, q1, q2, q3⟩; obtain ⟨V, hV, hVr, hR⟩ := HKey.out w1 g h ce cf q1 q2 q3; have HR := hid0 hR; have HVr := hid0 hVr; unfold setE at hV; have HV := hid0 hV; obtain ⟨⟨z0, z1, z2, z3, z4⟩, g0, g1, g2, g3, g4⟩ := rowE ((q3.block _ (by have := HS.out; omega)).trans HR1.out); clear hV hR hVr q1 q2 q3)
        | fail)
      rw [← HV.out]
      obtain ⟨⟨k0, k1, k2, k3, k4⟩, _⟩ := rowE HVr.out
      exact bodyPost_ret (v := .agg #[.int .i64 2, .bool nt, .slice g (nmK N 3).length ce, .slice h (ptK P).length cf, .slice none 0 0]) (by simp [results, Tryd.results5, go_sem, k0, k1, k2, k3, k4]) rfl HR.out
    · have hn : n = 0 := by omega
      subst hn
      have hm0 : ¬ ((m : Int) = 0) := by omega
      go_enter Tryd.func5, Tryd.ntmps5
      go_wp2_with (first
        | (go_at_call 20; refine (HPk.out _).mono ?_; rintro r w1 ⟨rfl, rfl⟩)
        | (go_at_call 6; refine (HSet.out _ (Below.refl _ _)).mono ?_; rintro r w1 ⟨g, ce, h, cf, rfl, q1, q2, q3⟩; obtain ⟨V, hV, hVr, hR⟩ := HKey.out w1 g h ce cf q1 q2 q3; have HR := hid0 hR; have HVr := hid0 hVr; unfold setE at hV; have HV := hid0 hV; obtain ⟨⟨z0, z1, z2, z3, z4⟩, g0, g1, g2, g3, g4⟩ := rowE ((q3.block _ (by have := HS.out; omega)).trans HR1.out); clear hV hR hVr q1 q2 q3)
        | fail)
      rw [← HV.out]
      obtain ⟨⟨k0, k1, k2, k3, k4⟩, _⟩ := rowE HVr.out
      exact bodyPost_ret (v := .agg #[.int .i64 2, .bool nt, .slice g (nmK N 3).length ce, .slice h (ptK P).length cf, .slice none 0 0]) (by simp [results, Tryd.results5, go_sem, k0, k1, k2, k3, k4]) rfl HR.out
end Go.Proofs.YtiapefdklojhdaaDoor
namespace Go.Proofs.YtiapefdklojhdaaDoor
open Go.RowKit Go.Shelf
def abcd (k : Nat) : ByteArray := if k = 0 then ⟨#[65]⟩ else if k = 1 then ⟨#[66]⟩ else if k = 2 then ⟨#[67]⟩ else ⟨#[68]⟩
/-- A unit of class A, B, C or D, out of any. -/
def kindK (u : Kd) : Kd := (abcd (u.1.size % 4), (pickN u.2 111 : Int) - 1)
/-- What kind begins with. -/
theorem kind_first (w : World) (s : ByteArray) (p : Int) (W : World) (hW : W = ((w.alloc (.cells #[.string s, .int .i64 p] 46)).alloc (.cells #[.string ⟨#[]⟩, .int .i64 0] 46)).alloc (.cells #[.string ⟨#[65]⟩, .string ⟨#[66]⟩, .string ⟨#[67]⟩, .string ⟨#[68]⟩] 9)) :
    W.cell? ⟨w.heap.size, 0, none⟩ = some (.string s) ∧ W.cell? ⟨w.heap.size, 1, none⟩ = some (.int .i64 p) ∧ (∀ j, j < 4 → W.cell? ⟨w.heap.size + 1 + 1, j, none⟩ = some (.string (abcd j))) ∧ W.heap[w.heap.size + 1]? = some (.cells #[.string ⟨#[]⟩, .int .i64 0] 46 (0, 0)) ∧ Below w.heap.size w W := by
  obtain ⟨wa, hwa⟩ : ∃ wa, wa = w.alloc (.cells #[.string s, .int .i64 p] 46) := ⟨_, rfl⟩
  obtain ⟨wb, hwb⟩ : ∃ wb, wb = wa.alloc (.cells #[.string ⟨#[]⟩, .int .i64 0] 46) := ⟨_, rfl⟩
  have sa : wa.heap.size = w.heap.size + 1 := by rw [hwa]; simp
  have sb : wb.heap.size = w.heap.size + 1 + 1 := by rw [hwb]; simp [sa]
  have hW2 : W = wb.alloc (.cells #[.string ⟨#[65]⟩, .string ⟨#[66]⟩, .string ⟨#[67]⟩, .string ⟨#[68]⟩] 9) := by rw [hW, hwb, hwa]
  have r0 : W.heap[w.heap.size]? = some (.cells #[.string s, .int .i64 p] 46 (0, 0)) := by rw [hW2, Below.heap_alloc wb _ _ (by omega), hwb, Below.heap_alloc wa _ _ (by omega), hwa]; exact heap_alloc_new w _
  have r1 : W.heap[w.heap.size + 1]? = some (.cells #[.string ⟨#[]⟩, .int .i64 0] 46 (0, 0)) := by rw [hW2, Below.heap_alloc wb _ _ (by omega), hwb, ← sa]; exact heap_alloc_new wa _
  have r2 : W.heap[w.heap.size + 1 + 1]? = some (.cells #[.string ⟨#[65]⟩, .string ⟨#[66]⟩, .string ⟨#[67]⟩, .string ⟨#[68]⟩] 9 (0, 0)) := by rw [hW2, ← sb]; exact heap_alloc_new wb _
  refine ⟨by rw [cell_of_row _ _ _ _ _ _ r0]; rfl, by rw [cell_of_row _ _ _ _ _ _ r0]; rfl, fun j hj => ?_, r1, by rw [hW]; exact (((Below.refl _ _).alloc (Nat.le_refl _) _).alloc (by simp) _).alloc (by simp; omega) _⟩
  rw [cell_of_row _ _ _ _ _ _ r2]
  rcases (show j = 0 ∨ j = 1 ∨ j = 2 ∨ j = 3 by omega) with rfl | rfl | rfl | rfl <;> rfl
theorem row2 {W : World} {X : Nat} {t : TypeId} {a b : Value} (h : W.heap[X]? = some (.cells #[a, b] t (0, 0))) : (W.cell? ⟨X, 0, none⟩ = some a ∧ W.cell? ⟨X, 1, none⟩ = some b) ∧ (W.frozen? ⟨X, 0, none⟩ = false ∧ W.frozen? ⟨X, 1, none⟩ = false) :=
  ⟨⟨by rw [cell_of_row _ _ _ _ _ _ h]; rfl, by rw [cell_of_row _ _ _ _ _ _ h]; rfl⟩, by simp [World.frozen?, h], by simp [World.frozen?, h]⟩
set_option maxRecDepth 10000 in
set_option maxHeartbeats 1600000 in
theorem kind_any (u : Kd) (w : World) :
    Calls Tryd.prog 22 #[.agg #[.string u.1, .int .i64 u.2]] w fun r w' => r = .returned (.agg #[.string (kindK u).1, .int .i64 (kindK u).2]) ∧ Below w.heap.size w w' := by
  obtain ⟨s, p⟩ := u
  obtain ⟨W, hW⟩ : ∃ W, ((w.alloc (.cells #[.string s, .int .i64 p] 46)).alloc (.cells #[.string ⟨#[]⟩, .int .i64 0] 46)).alloc (.cells #[.string ⟨#[65]⟩, .string ⟨#[66]⟩, .string ⟨#[67]⟩, .string ⟨#[68]⟩] 9) = W := ⟨_, rfl⟩
  obtain ⟨x0, x1, x2, hr, hb⟩ := kind_first w s p W hW.symm
  obtain ⟨m, hm⟩ : ∃ m, m = s.size % 4 := ⟨_, rfl⟩
  have hm4 : m < 4 := by omega
  have x3 := x2 m hm4
  have hidx : Int.tmod (s.size : Int) 4 = (m : Int) := by rw [Int.tmod_eq_emod_of_nonneg (by omega)]; omega
  have hi0 : (0 : Int) ≤ (m : Int) := by omega
  have hi4 : (m : Int) < 4 := by omega
  obtain ⟨q, hq⟩ : ∃ q, q = pickN p 111 := ⟨_, rfl⟩
  have hq1 : q < 111 := by rw [hq]; exact pickN_lt _ _ (by omega)
  have HPk := hid0 (fun V => pick_at p 111 (by omega) (by omega) V)
  rw [← hq] at HPk
  have hsub : IntKind.i64.wrap ((q : Int) - 1) = (q : Int) - 1 := by simp [IntKind.wrap, IntKind.bits, IntKind.signed]; omega
  have HK : Hid (kindK (s, p) = (abcd m, (q : Int) - 1)) := hid0 (by unfold kindK; rw [hm, hq])
  generalize abcd m = cl at *
  obtain ⟨⟨y0, y1⟩, f0, f1⟩ := row2 hr
  have hS : W.drew.cell? ⟨w.heap.size, 0, none⟩ = some (.string s) ∧ W.drew.cell? ⟨w.heap.size, 1, none⟩ = some (.int .i64 p) ∧ W.drew.cell? ⟨w.heap.size + 1 + 1, m, none⟩ = some (.string cl) := ⟨x0, x1, x3⟩
  have hoth : ∀ (b o : Nat), b ≠ w.heap.size + 1 → ((W.setCell ⟨w.heap.size + 1, 0, none⟩ (.string cl)).setCell ⟨w.heap.size + 1, 1, none⟩ (.int .i64 ((q : Int) - 1))).drew.cell? ⟨b, o, none⟩ = W.cell? ⟨b, o, none⟩ := fun b o hne => World.cell?_of_block (w := W) (a := ⟨b, o, none⟩) (by
    show ((W.setCell ⟨w.heap.size + 1, 0, none⟩ (.string cl)).setCell ⟨w.heap.size + 1, 1, none⟩ (.int .i64 ((q : Int) - 1))).heap[b]? = W.heap[b]?
    rw [Below.heap_setCell _ _ _ b hne, Below.heap_setCell _ _ _ b hne])
  have HS2 : Hid (((W.setCell ⟨w.heap.size + 1, 0, none⟩ (.string cl)).setCell ⟨w.heap.size + 1, 1, none⟩ (.int .i64 ((q : Int) - 1))).drew.cell? ⟨w.heap.size, 0, none⟩ = some (.string s) ∧ ((W.setCell ⟨w.heap.size + 1, 0, none⟩ (.string cl)).setCell ⟨w.heap.size + 1, 1, none⟩ (.int .i64 ((q : Int) - 1))).drew.cell? ⟨w.heap.size, 1, none⟩ = some (.int .i64 p) ∧ ((W.setCell ⟨w.heap.size + 1, 0, none⟩ (.string cl)).setCell ⟨w.heap.size + 1, 1, none⟩ (.int .i64 ((q : Int) - 1))).drew.cell? ⟨w.heap.size + 1 + 1, m, none⟩ = some (.string cl)) :=
    hid0 ⟨(hoth _ _ (by omega)).trans x0, (hoth _ _ (by omega)).trans x1, (hoth _ _ (by omega)).trans x3⟩
  have HRow : Hid (((W.setCell ⟨w.heap.size + 1, 0, none⟩ (.string cl)).setCell ⟨w.heap.size + 1, 1, none⟩ (.int .i64 ((q : Int) - 1))).drew.heap[w.heap.size + 1]? = some (.cells #[.string cl, .int .i64 ((q : Int) - 1)] 46 (0, 0))) := hid0 (heap_setCell_same _ _ 1 _ _ (.int .i64 ((q : Int) - 1)) (heap_setCell_same _ _ 0 _ _ (.string cl) hr))
  have HB : Hid (Below w.heap.size w ((W.setCell ⟨w.heap.size + 1, 0, none⟩ (.string cl)).setCell ⟨w.heap.size + 1, 1, none⟩ (.int .i64 ((q : Int) - 1))).drew) := hid0 (((hb.setCell (p := ⟨w.heap.size + 1, 0, none⟩) (by simp) _).setCell (p := ⟨w.heap.size + 1, 1, none⟩) (by simp) _).drew)
  clear x2 hr hb hm hq hoth
  go_enter Tryd.func22, Tryd.ntmps22
  go_wp2
  go_region_held3 (fun V => V.cell? ⟨w.heap.size, 0, none⟩ = some (.string s) ∧ V.cell? ⟨w.heap.size, 1, none⟩ = some (.int .i64 p) ∧ V.cell? ⟨w.heap.size + 1 + 1, m, none⟩ = some (.string cl))
    (first | assumption | exact hS | exact HS2.out)
    (first | (go_at_call 20; refine (HPk.out _).mono ?_; rintro r w1 ⟨rfl, rfl⟩))
  go_wp2
  obtain ⟨⟨k0, k1⟩, _⟩ := row2 HRow.out
  exact bodyPost_ret (v := .agg #[.string cl, .int .i64 ((q : Int) - 1)]) (by simp [results, Tryd.results22, go_sem, k0, k1]) rfl ⟨by rw [HK.out], HB.out⟩
end Go.Proofs.YtiapefdklojhdaaDoor
namespace Go.Proofs.YtiapefdklojhdaaDoor
open Go.RowKit Go.Shelf
def kuC (u : Kd) : List Value := [.string u.1, .int .i64 u.2]
def cellsU (l : List Kd) : List Value := l.flatMap kuC
theorem flatU (l : List Kd) : ∀ (i j : Nat) (h : i < l.length), j < 2 → (cellsU l)[i * 2 + j]? = (kuC l[i])[j]? := by
  unfold cellsU
  induction l with
  | nil => intro i j h; exact absurd h (Nat.not_lt_zero _)
  | cons g l ih =>
    intro i j h hj
    rw [List.flatMap_cons]
    cases i with
    | zero =>
      rw [Nat.zero_mul, Nat.zero_add, List.getElem?_append_left (by simpa [kuC] using hj)]
      rfl
    | succ i =>
      rw [List.getElem?_append_right (by simp [kuC]; omega)]
      rw [show (i + 1) * 2 + j - (kuC g).length = i * 2 + j by simp [kuC]; omega]
      exact ih i j (by simpa using h) hj
def OwnU (w : World) (lo : Nat) (v : Value) (l : List Kd) : Prop := w.ownsRow lo 46 2 v l.length (cellsU l)
theorem OwnU.nil (w : World) (lo : Nat) : OwnU w lo (.slice none 0 0) [] := World.ownsRow_nil _ _ _ _
theorem OwnU.ka {w : World} {lo : Nat} {v : Value} {l : List Kd} (h : OwnU w lo v l) : ∃ a cap, v = .slice a l.length cap ∧ KA w w.heap.size a l := by
  have h0 := h
  rcases h.2 with ⟨rfl, hn⟩ | ⟨g, cap, cur, rfl, hg, hr, _⟩
  · exact ⟨none, 0, by rw [hn], ⟨fun k hk => by omega⟩⟩
  · refine ⟨_, cap, rfl, ⟨fun k hk => ⟨g, 0, rfl, (World.ownsRow.lt h0 g rfl).2, ?_, ?_⟩⟩⟩
    · have := World.ownsRow.cellAt h0 (k * 2) (by omega)
      rw [Nat.zero_add, this]
      exact flatU l k 0 hk (by omega)
    · have := World.ownsRow.cellAt h0 (k * 2 + 1) (by omega)
      rw [Nat.zero_add, this]
      exact flatU l k 1 hk (by omega)
theorem OwnU.past {w w' : World} {lo : Nat} {v : Value} {l : List Kd} (h : OwnU w lo v l) (k : Below w.heap.size w w') : OwnU w' lo v l :=
  own_blk h (fun g hg => k.block g (World.ownsRow.lt h g hg).2)
theorem infoU : (Tryd.prog.info? 46).map (fun i => (i.zero, i.size, i.bytes)) = some (some (.agg #[.string ByteArray.empty, .int .i64 0]), 2, 24) := by kernel_rfl
theorem cellU_new (w : World) (a b : Value) (t : TypeId) : ∀ j u, [a, b][j]? = some u → (w.alloc (.cells #[a, b] t)).cell? ((⟨w.heap.size, 0, none⟩ : Addr).add j) = some u := by
  intro j u h
  rw [Addr.add_mid, cell_of_row _ _ _ _ _ _ (heap_alloc_new w _)]
  simpa using h
/-- Up to twelve such units. -/
def wordK (l : List Kd) : List Kd := (l.take 12).map kindK
theorem OwnU.snoc {w : World} {lo : Nat} {v : Value} {l : List Kd} {u : Kd} (h : w.ownsRow lo 46 2 v (l.length + 1) (cellsU l ++ kuC u)) : OwnU w lo v (l ++ [u]) := by
  unfold OwnU cellsU
  rw [List.length_append, List.length_singleton, List.flatMap_append, List.flatMap_singleton]
  exact h
/-- What wordOf leaves. -/
def WordP (w : World) (l : List Kd) (r : Ending) (w' : World) : Prop := ∃ v, r = .returned v ∧ OwnU w' w.heap.size v (wordK l) ∧ Below w.heap.size w w'
set_option maxRecDepth 10000 in
set_option maxHeartbeats 1600000 in
theorem wordOf_any (l : List Kd) (a : Option Addr) (ca : Nat) (w : World) (ha : KA w w.heap.size a l) :
    Calls Tryd.prog 7 #[.slice a l.length ca] w fun r w' => WordP w l r w' := by
  obtain ⟨i0, hi, hz0, hz1, hz2⟩ := info_parts infoU
  have HA := hid0 ha
  clear ha
  go_enter Tryd.func7, Tryd.ntmps7
  go_wp2
  go_loopw [3, 4, 5] (fun v i _ wr => ∃ (j : Nat), j ≤ 12 ∧ j ≤ l.length ∧ i = .int .i64 (j : Int) ∧ Hid (OwnU wr w.heap.size v ((l.take j).map kindK)) ∧ Hid (Below w.heap.size w wr)) (fun _ i _ _ => 12 - (intOf i).toNat)
  case atStart => exact ⟨0, Nat.zero_le _, Nat.zero_le _, rfl, hid0 (OwnU.nil _ _), hid0 (Below.refl _ _)⟩
  case round =>
    obtain ⟨j, hj, hjl, rfl, HO, HB⟩ := hrel
    by_cases hlt : j < l.length ∧ j < 12
    · have hjI : (j : Int) < (l.length : Int) := by omega
      have hj3 : (j : Int) < 12 := by omega
      have hjI0 : (0 : Int) ≤ (j : Int) := by omega
      obtain ⟨b, off, rfl, hbw, hc0, hc1⟩ := HA.out.at' j hlt.1
      have hd0 := (HB.out.cell (p := ⟨b, off + j * 2, none⟩) hbw).trans hc0
      have hd1 := (HB.out.cell (p := ⟨b, off + j * 2 + 1, none⟩) hbw).trans hc1
      have HTK : Hid ((l.take (j + 1)).map kindK = (l.take j).map kindK ++ [kindK l[j]]) := hid0 (by rw [List.take_add_one, List.getElem?_eq_getElem hlt.1, List.map_append]; rfl)
      have HTL : Hid (((l.take j).map kindK).length = j) := hid0 (by rw [List.length_map, List.length_take]; omega)
      have hvs : ∃ aw cw, u3 = .slice aw j cw := by
        obtain ⟨aw, cw, e, _⟩ := HO.out.ka
        rw [HTL.out] at e
        exact ⟨aw, cw, e⟩
      obtain ⟨aw, cw, rfl⟩ := hvs
      have HKd := hid0 (kind_any l[j] wr)
      have hbs := HB.out.size
      generalize kindK l[j] = u2 at *
      generalize l[j] = u1 at *
      obtain ⟨s1, p1⟩ := u1
      obtain ⟨s2, p2⟩ := u2
      simp only [] at hd0 hd1 HKd
      clear hc0 hc1
      go_wp2_with (first
        | (go_at_call 22
           refine HKd.out.mono ?_
           rintro r w1 ⟨rfl, hb1⟩
           obtain ⟨w2, hw2⟩ : ∃ w2, w1.alloc (.cells #[.string s2, .int .i64 p2] 46) = w2 := ⟨_, rfl⟩
           have hb2 : Below wr.heap.size wr w2 := by rw [← hw2]; exact hb1.alloc hb1.size _
           have hr2 : w2.heap[w1.heap.size]? = some (.cells #[.string s2, .int .i64 p2] 46 (0, 0)) := by rw [← hw2]; exact heap_alloc_new w1 _
           obtain ⟨⟨c0, c1⟩, _⟩ := row2 hr2
           have HOk : Hid (w2.ownsRow w.heap.size 46 2 (.slice aw j cw) j (cellsU ((l.take j).map kindK))) := hid0 (by have ho := HO.out.past hb2; unfold OwnU at ho; rw [HTL.out] at ho; exact ho)
           have HB2 := hid0 hb2
           clear hb1 hb2 hr2)
        | (at_builtin; go_loud ((
             refine wpList_append_own _ (by rfl) _ _ 29 (by rfl) w.heap.size 46 i0 (.agg #[.string ByteArray.empty, .int .i64 0]) 2 24 Tryd.underlying29 hi hz0 hz1 hz2 rfl (by decide) (.slice aw j cw) j (cellsU ((l.take j).map kindK)) (by rfl) (World.ownsRow.alloc HOk.out _) ⟨w2.heap.size, 0, none⟩ 1 1 (kuC (s2, p2)) (by rfl) (by rfl) (cellU_new w2 _ _ _) (fun u hu => by unfold kuC at hu; simp only [List.mem_cons, List.not_mem_nil, or_false] at hu; rcases hu with rfl | rfl <;> rfl) (by unfold maxLen; omega) (by omega) (by have := HB2.out.size; simp; omega) ?_
             intro v4 w4 hown4 hgrow4 _
             have HO4 : Hid (OwnU w4 w.heap.size v4 ((l.take (j + 1)).map kindK)) := hid0 (by rw [HTK.out]; exact OwnU.snoc (by rw [HTL.out]; exact hown4))
             have HB4 := hid0 (((HB.out.trans (HB2.out.mono hbs)).alloc (by have := HB2.out.size; omega) _).grown hgrow4 (by have := HB2.out.size; simp; omega) (fun q hq => (World.ownsRow.lt HOk.out q hq).1))
             clear hown4 hgrow4)))
        | fail)
      go_roundw
      case rel => exact ⟨j + 1, by omega, by omega, by go_num, HO4, HB4⟩
      case measure => simp [intOf]; omega
    · have HE : Hid (OwnU wr w.heap.size u3 (wordK l)) := hid0 (by
        have h := HO.out
        have e : l.take j = l.take 12 := by
          rcases Nat.lt_or_ge j 12 with h3 | h3
          · rw [List.take_of_length_le (by omega), List.take_of_length_le (by omega)]
          · rw [show j = 12 by omega]
        rw [e] at h
        exact h)
      by_cases hA : j < l.length
      · have hjI : (j : Int) < (l.length : Int) := by omega
        have hj3 : ¬ (j : Int) < 12 := by omega
        go_wp2
        go_ret
        exact ⟨u3, rfl, HE.out, HB.out⟩
      · have hjI : ¬ (j : Int) < (l.length : Int) := by omega
        go_wp2
        go_ret
        exact ⟨u3, rfl, HE.out, HB.out⟩
end Go.Proofs.YtiapefdklojhdaaDoor
namespace Go.Proofs.YtiapefdklojhdaaDoor
open Go.RowKit Go.Shelf
def eA : Ex := .mk 2 false [⟨#[65]⟩] [] []
def eB : Ex := .mk 2 false [] [(66, 66)] []
def eF : Ex := .mk 3 false [] [] [eA, .mk 6 false [] [] [eB]]
def wdF : List Kd := [(⟨#[65]⟩, 65), (⟨#[88]⟩, 66), (⟨#[88]⟩, 66)]
theorem eF_ok : okE eF = true := by decide +kernel
theorem eF_chk : CR.okB (chkE mayF eF 1 0 0) = true := eF_ok
theorem eF_mt : Mt eF wdF := by
  refine (mt_seq_cons _ _ _ _ _ _).2 ⟨[(⟨#[65]⟩, 65)], [(⟨#[88]⟩, 66), (⟨#[88]⟩, 66)], rfl, (mt_set _ _ _ _ _).2 ⟨_, rfl, by decide +kernel⟩, (mt_seq_one _ _ _ _ _).2 ((mt_plus _ _).2 ⟨1, by decide, (mt_set _ _ _ _ _).2 ⟨_, rfl, by decide +kernel⟩, ?_⟩)⟩
  exact (mt_star _ _).2 (.inr ⟨1, by decide, by decide, (mt_set _ _ _ _ _).2 ⟨_, rfl, by decide +kernel⟩, (mt_star _ _).2 (.inl rfl)⟩)
theorem eF_len {l : List Kd} (h : Mt eF l) : 2 ≤ l.length := by
  obtain ⟨u, v, rfl, h1, h2⟩ := (mt_seq_cons _ _ _ _ _ _).1 h
  obtain ⟨x, rfl, _⟩ := (mt_set _ _ _ _ _).1 h1
  obtain ⟨i, hi, h3, _⟩ := (mt_plus _ _).1 ((mt_seq_one _ _ _ _ _).1 h2)
  obtain ⟨y, e, _⟩ := (mt_set _ _ _ _ _).1 h3
  have : (v.take i).length = 1 := by rw [e]; rfl
  rw [List.length_take] at this
  rw [List.length_append, List.length_singleton]
  omega
def zX : EV := ⟨.nilIface, .nilIface, .nilIface, .nilIface, .nilIface⟩
theorem sq_one {w : World} {b : Nat} {s : ByteArray} {t : TypeId} (h : w.heap[b]? = some (.cells #[.string s] t (0, 0))) : SQ w (fun _ => True) (some ⟨b, 0, none⟩) [s] := ⟨fun k hk => by
  have : k = 0 := by simpa using hk
  subst this
  exact ⟨b, 0, rfl, trivial, lt_of_row h, by rw [cell_of_row _ _ _ _ _ _ h]; rfl⟩⟩
theorem rq_one {w : World} {b : Nat} {p q : Int} {t : TypeId} (h : w.heap[b]? = some (.cells #[.int .i64 p, .int .i64 q] t (0, 0))) : RQ w (fun _ => True) (some ⟨b, 0, none⟩) [(p, q)] := ⟨fun k hk => by
  have : k = 0 := by simpa using hk
  subst this
  exact ⟨b, 0, rfl, trivial, by rw [cell_of_row _ _ _ _ _ _ h]; rfl, by rw [cell_of_row _ _ _ _ _ _ h]; rfl⟩⟩
/-- A block laid at the end. -/
theorem laid {w w' : World} {o : Array Value} {t : TypeId} (h : w.alloc (.cells o t) = w') : Below w.heap.size w w' ∧ w'.heap[w.heap.size]? = some (.cells o t (0, 0)) ∧ w'.heap.size = w.heap.size + 1 := by
  subst h
  exact ⟨(Below.refl _ _).alloc (Nat.le_refl _) _, heap_alloc_new w _, by simp⟩
theorem kept {w w' : World} (h : Below w.heap.size w w') {b : Nat} {o : Obj} (hb : w.heap[b]? = some o) : w'.heap[b]? = some o := by
  have hl : b < w.heap.size := by
    rcases Nat.lt_or_ge b w.heap.size with h1 | h1
    · exact h1
    · rw [Array.getElem?_eq_none h1] at hb
      cases hb
  exact (h.block b hl).trans hb
theorem first_world (w w1 w2 w3 w4 w5 w6 w7 w8 : World)
    (h1 : w.alloc (.cells #[.string ⟨#[65]⟩] 9) = w1)
    (h2 : w1.alloc (.cells #[.int .i64 2, .bool false, .slice (some ⟨w.heap.size, 0, none⟩) 1 1, .slice none 0 0, .slice none 0 0] 28) = w2)
    (h3 : w2.alloc (.cells #[.int .i64 66, .int .i64 66] 57) = w3)
    (h4 : w3.alloc (.cells #[.int .i64 2, .bool false, .slice none 0 0, .slice (some ⟨w2.heap.size, 0, none⟩) 1 1, .slice none 0 0] 28) = w4)
    (h5 : w4.alloc (.cells #[.int .i64 2, .bool false, .slice none 0 0, .slice (some ⟨w2.heap.size, 0, none⟩) 1 1, .slice none 0 0] 28) = w5)
    (h6 : w5.alloc (.cells #[.int .i64 2, .bool false, .slice (some ⟨w.heap.size, 0, none⟩) 1 1, .slice none 0 0, .slice none 0 0, .int .i64 6, .bool false, .slice none 0 0, .slice none 0 0, .slice (some ⟨w4.heap.size, 0, none⟩) 1 1] 28) = w6)
    (h7 : w6.alloc (.cells #[.int .i64 3, .bool false, .slice none 0 0, .slice none 0 0, .slice (some ⟨w5.heap.size, 0, none⟩) 2 2] 28) = w7)
    (h8 : w7.alloc (.cells #[.string ⟨#[65]⟩, .int .i64 65, .string ⟨#[88]⟩, .int .i64 66, .string ⟨#[88]⟩, .int .i64 66] 46) = w8) :
    (w4.heap[w1.heap.size]? = some (.cells #[.int .i64 2, .bool false, .slice (some ⟨w.heap.size, 0, none⟩) 1 1, .slice none 0 0, .slice none 0 0] 28 (0, 0))) ∧
    (w4.heap[w3.heap.size]? = some (.cells #[.int .i64 2, .bool false, .slice none 0 0, .slice (some ⟨w2.heap.size, 0, none⟩) 1 1, .slice none 0 0] 28 (0, 0))) ∧
    (w8.heap[w6.heap.size]? = some (.cells #[.int .i64 3, .bool false, .slice none 0 0, .slice none 0 0, .slice (some ⟨w5.heap.size, 0, none⟩) 2 2] 28 (0, 0))) ∧
    ExIs w8 (fun _ => True) eF ⟨.int .i64 3, .bool false, .slice none 0 0, .slice none 0 0, .slice (some ⟨w5.heap.size, 0, none⟩) 2 2⟩ ∧
    KA w8 w8.heap.size (some ⟨w7.heap.size, 0, none⟩) wdF ∧ Below w.heap.size w w8 := by
  obtain ⟨b1, r1, s1⟩ := laid h1
  obtain ⟨b2, r2, s2⟩ := laid h2
  obtain ⟨b3, r3, s3⟩ := laid h3
  obtain ⟨b4, r4, s4⟩ := laid h4
  obtain ⟨b5, r5, s5⟩ := laid h5
  obtain ⟨b6, r6, s6⟩ := laid h6
  obtain ⟨b7, r7, s7⟩ := laid h7
  obtain ⟨b8, r8, s8⟩ := laid h8
  have q1 := kept b8 (kept b7 (kept b6 (kept b5 (kept b4 (kept b3 (kept b2 r1))))))
  have q3 := kept b8 (kept b7 (kept b6 (kept b5 (kept b4 r3))))
  have q5 := kept b8 (kept b7 (kept b6 r5))
  have q6 := kept b8 (kept b7 r6)
  have q7 := kept b8 r7
  clear h1 h2 h3 h4 h5 h6 h7 h8
  have isA : ExIs w8 (fun _ => True) eA ⟨.int .i64 2, .bool false, .slice (some ⟨w.heap.size, 0, none⟩) 1 1, .slice none 0 0, .slice none 0 0⟩ :=
    .mk 2 false [⟨#[65]⟩] [] [] _ 1 none 0 none 0 (fun _ => zX) (sq_one q1) (RQ.nil _ _ _) (by simp) (by simp) (by simp) (fun i hi => absurd hi (Nat.not_lt_zero _)) (fun i hi => absurd hi (Nat.not_lt_zero _))
  have isB : ExIs w8 (fun _ => True) eB ⟨.int .i64 2, .bool false, .slice none 0 0, .slice (some ⟨w2.heap.size, 0, none⟩) 1 1, .slice none 0 0⟩ :=
    .mk 2 false [] [(66, 66)] [] none 0 _ 1 none 0 (fun _ => zX) (SQ.nil _ _ _) (rq_one q3) (by simp) (by simp) (by simp) (fun i hi => absurd hi (Nat.not_lt_zero _)) (fun i hi => absurd hi (Nat.not_lt_zero _))
  have isP : ExIs w8 (fun _ => True) (.mk 6 false [] [] [eB]) ⟨.int .i64 6, .bool false, .slice none 0 0, .slice none 0 0, .slice (some ⟨w4.heap.size, 0, none⟩) 1 1⟩ := by
    obtain ⟨⟨a0, a1, a2, a3, a4⟩, _⟩ := rowE q5
    refine .mk 6 false [] [] [eB] none 0 none 0 (some ⟨w4.heap.size, 0, none⟩) 1 (fun _ => ⟨.int .i64 2, .bool false, .slice none 0 0, .slice (some ⟨w2.heap.size, 0, none⟩) 1 1, .slice none 0 0⟩) (SQ.nil _ _ _) (RQ.nil _ _ _) (by simp) (by simp) (by simp) (fun i hi => ?_) (fun i hi => ?_)
    · have : i = 0 := by simpa using hi
      subst this
      exact ⟨_, 0, rfl, trivial, a0, a1, a2, a3, a4⟩
    · have : i = 0 := by simpa using hi
      subst this
      exact isB
  refine ⟨kept b4 (kept b3 r2), r4, q7, ?_, ⟨fun k hk => ?_⟩, Below.later (Below.later (Below.later (Below.later (Below.later (Below.later (Below.later b1 b2) b3) b4) b5) b6) b7) b8⟩
  · have hc : ∀ j, w8.cell? ⟨w5.heap.size, j, none⟩ = _ := fun j => cell_of_row _ _ _ _ _ _ q6
    refine .mk 3 false [] [] [eA, .mk 6 false [] [] [eB]] none 0 none 0 (some ⟨w5.heap.size, 0, none⟩) 2 (fun i => if i = 0 then ⟨.int .i64 2, .bool false, .slice (some ⟨w.heap.size, 0, none⟩) 1 1, .slice none 0 0, .slice none 0 0⟩ else ⟨.int .i64 6, .bool false, .slice none 0 0, .slice none 0 0, .slice (some ⟨w4.heap.size, 0, none⟩) 1 1⟩) (SQ.nil _ _ _) (RQ.nil _ _ _) (by simp) (by simp) (by simp) (fun i hi => ?_) (fun i hi => ?_)
    · have : i = 0 ∨ i = 1 := by simp at hi; omega
      rcases this with rfl | rfl
      · exact ⟨_, 0, rfl, trivial, by rw [hc]; rfl, by rw [hc]; rfl, by rw [hc]; rfl, by rw [hc]; rfl, by rw [hc]; rfl⟩
      · exact ⟨_, 0, rfl, trivial, by rw [hc]; rfl, by rw [hc]; rfl, by rw [hc]; rfl, by rw [hc]; rfl, by rw [hc]; rfl⟩
    · have : i = 0 ∨ i = 1 := by simp at hi; omega
      rcases this with rfl | rfl
      · exact isA
      · exact isP
  · have hc : ∀ j, w8.cell? ⟨w7.heap.size, j, none⟩ = _ := fun j => cell_of_row _ _ _ _ _ _ r8
    have : k = 0 ∨ k = 1 ∨ k = 2 := by simp [wdF] at hk; omega
    rcases this with rfl | rfl | rfl
    · exact ⟨_, 0, rfl, by omega, by rw [hc]; rfl, by rw [hc]; rfl⟩
    · exact ⟨_, 0, rfl, by omega, by rw [hc]; rfl, by rw [hc]; rfl⟩
    · exact ⟨_, 0, rfl, by omega, by rw [hc]; rfl, by rw [hc]; rfl⟩
end Go.Proofs.YtiapefdklojhdaaDoor
namespace Go.Proofs.YtiapefdklojhdaaDoor
open Go.RowKit Go.Shelf
/-- An answer that lies in blocks below B, or in new ones. -/
def ExB (D : Nat → Prop) (w : World) (t : Ex) (r : Ending) (w' : World) : Prop := ∃ y : EV, r = .returned y.v ∧ ExIs w' (fun b => D b ∨ w.heap.size ≤ b) t y ∧ Below w.heap.size w w'
theorem ExIs.flatB {w : World} {Q : Nat → Prop} {e : Ex} {x : EV} (h : ExIs w Q e x) : ∃ k t a m c b n d g l z, x = ⟨.int .i64 k, .bool t, .slice a m c, .slice b n d, .slice g l z⟩ := by
  cases h with
  | mk k nt N P L a ca b cb c cc vs hN hP lN lP lL hL hR => exact ⟨_, _, _, _, _, _, _, _, _, _, _, rfl⟩
theorem ExB.shape {D : Nat → Prop} {w w' : World} {t : Ex} {r : Ending} (h : ExB D w t r w') : ∃ k u a m c b n d g l z, r = .returned (.agg #[.int .i64 k, .bool u, .slice a m c, .slice b n d, .slice g l z]) ∧ ExIs w' (fun b => D b ∨ w.heap.size ≤ b) t ⟨.int .i64 k, .bool u, .slice a m c, .slice b n d, .slice g l z⟩ ∧ Below w.heap.size w w' := by
  obtain ⟨y, e, h1, h2⟩ := h
  obtain ⟨k, u, a, m, c, b, n, d, g, l, z, rfl⟩ := h1.flatB
  exact ⟨k, u, a, m, c, b, n, d, g, l, z, e, h1, h2⟩
theorem ret_doneB {D : Nat → Prop} {C : Nat} {w W : World} {X : Nat} {t : TypeId} {a0 b0 c0 d0 e0 : Value} {e : Ex} {y : EV} (bel : Below w.heap.size w W) (hX : w.heap.size ≤ X) (hD : ∀ b, D b → b ≠ X) (hC : X < C) (hr : W.heap[X]? = some (.cells #[a0, b0, c0, d0, e0] t (0, 0))) (hy : ExIs W (fun g => D g ∨ C ≤ g) e y) :
    ∃ V, V = setE W X y.k y.t y.n y.p y.r ∧ V.heap[X]? = some (.cells #[y.k, y.t, y.n, y.p, y.r] t (0, 0)) ∧ (∀ b o, b ≠ X → V.cell? ⟨b, o, none⟩ = W.cell? ⟨b, o, none⟩) ∧ ExB D w e (.returned y.v) V := by
  have hk := setE_keeps (W := W) (X := X) y.k y.t y.n y.p y.r
  refine ⟨_, rfl, setE_row hr _ _ _ _ _, fun b o hne => World.cell?_of_block (w := W) (a := ⟨b, o, none⟩) (setE_other hne _ _ _ _ _), y, rfl, ?_, setE_below bel hX _ _ _ _ _⟩
  exact (hy.keeps ⟨hk.size, fun g o hg hl => hk.cell g o (hg.elim (hD g) (fun h => by omega)) hl⟩).mono (fun g _ h => h.imp id (fun h => by omega))
theorem ownB_lt' {W : World} {lo : Nat} {Q : Nat → Prop} {v : Value} {L : List Ex} {xs : List EV} (h : PE W lo Q v L xs) : ∀ q, v.ownBlock = some q → lo ≤ q ∧ q < W.heap.size := fun q e => World.ownsRow.lt h.own q e
/-- What is asked of woven at a part. -/
def WovC (t : Ex) (y : EV) (D : Nat → Prop) (e : Ex) (x : EV) (W : World) : Prop := Calls Tryd.prog 24 #[x.v, y.v] W fun r w' => ExB D W (wovE t e) r w'
set_option maxRecDepth 10000 in
set_option maxHeartbeats 1600000 in
theorem inner_any (t : Ex) (y : EV) (D : Nat → Prop) (X : Nat) (e : Ex) (x : EV) (w : World) (hD : ∀ b, D b → b < w.heap.size) (hy : w.heap[X]? = some (.cells #[y.k, y.t, y.n, y.p, y.r] 28 (0, 0))) (fx : ∃ k t a m c b n d g l z, x = ⟨.int .i64 k, .bool t, .slice a m c, .slice b n d, .slice g l z⟩) (fy : ∃ k t a m c b n d g l z, y = ⟨.int .i64 k, .bool t, .slice a m c, .slice b n d, .slice g l z⟩) (ih : ∀ W, Below w.heap.size w W → WovC t y D e x W) :
    Calls Tryd.prog 47 #[x.v, .pointer (some ⟨X, 0, none⟩)] w fun r w' => ExB D w (wovE t e) r w' := by
  obtain ⟨k1, t1, a1, m1, c1, b1, n1, d1, g1, l1, z1, rfl⟩ := fx
  obtain ⟨k2, t2, a2, m2, c2, b2, n2, d2, g2, l2, z2, rfl⟩ := fy
  obtain ⟨W, hW⟩ : ∃ W, (w.alloc (.cells #[.int .i64 k1, .bool t1, .slice a1 m1 c1, .slice b1 n1 d1, .slice g1 l1 z1] 28)).alloc (.cells #[.int .i64 0, .bool false, .slice none 0 0, .slice none 0 0, .slice none 0 0] 28) = W := ⟨_, rfl⟩
  obtain ⟨hr0, hr1, hb, hs⟩ := two_rows w _ _ _ _ _ _ _ _ _ _ _ W hW.symm
  obtain ⟨⟨x0, x1, x2, x3, x4⟩, _⟩ := rowE hr0
  obtain ⟨⟨y0, y1, y2, y3, y4⟩, _⟩ := rowE (kept hb hy)
  have HR1 := hid0 hr1
  have HB := hid0 hb
  have HS := hid0 hs
  have HC := hid0 (ih W hb)
  unfold WovC EV.v at HC
  unfold EV.v
  simp only [] at HC ⊢
  clear hr0 hr1 hb hs ih hy
  go_enter Tryd.func47, Tryd.ntmps47
  go_wp2_with (first
    | (go_at_call 24
       refine HC.out.mono ?_
       rintro r w1 hr
       obtain ⟨k5, u5, a5, m5, c5, b5, n5, d5, g5, l5, z5, rfl, q1, q2⟩ := hr.shape
       have hd := ret_doneB (D := D) (Below.later HB.out q2) (Nat.le_succ _) (fun b' h' => by have := hD b' h'; omega) (show w.heap.size + 1 < W.heap.size by have := HS.out; omega) ((q2.block _ (by have := HS.out; omega)).trans HR1.out) q1
       unfold EV.v at hd
       dsimp only at hd
       obtain ⟨V, hV, hVr, _, hR⟩ := hd
       obtain ⟨⟨v0, v1, v2, v3, v4⟩, f0, f1, f2, f3, f4⟩ := rowE ((q2.block _ (by have := HS.out; omega)).trans HR1.out)
       have HR := hid0 hR
       have HVr := hid0 hVr
       unfold setE at hV
       have HV := hid0 hV
       clear hr q1 q2 hV hVr hR)
    | fail)
  rw [← HV.out]
  obtain ⟨⟨k0, k1', k2', k3, k4⟩, _⟩ := rowE HVr.out
  exact bodyPost_ret (v := .agg #[.int .i64 k5, .bool u5, .slice a5 m5 c5, .slice b5 n5 d5, .slice g5 l5 z5]) (by simp [results, Tryd.results47, go_sem, k0, k1', k2', k3, k4]) rfl HR.out
def EachB (D : Nat → Prop) (w : World) (L : List Ex) (r : Ending) (w' : World) : Prop := ∃ v xs, r = .returned v ∧ PE w' w.heap.size (fun b => D b ∨ w.heap.size ≤ b) v L xs ∧ Below w.heap.size w w'
set_option maxRecDepth 10000 in
set_option maxHeartbeats 1600000 in
theorem eachW_any (t : Ex) (D : Nat → Prop) (X : Nat) (L : List Ex) (c : Option Addr) (cc : Nat) (vs : Nat → EV) (w : World) (hD : ∀ b, D b → b < w.heap.size) (hl : L.length ≤ 1000000) (hL : ∀ i, i < L.length → ∃ g off, c = some ⟨g, off, none⟩ ∧ Five w g (off + i * 5) (vs i)) (hF : ∀ i, i < L.length → ∃ k t a m c b n d g l z, vs i = ⟨.int .i64 k, .bool t, .slice a m c, .slice b n d, .slice g l z⟩)
    (ih : ∀ i (h : i < L.length) (W : World), Below w.heap.size w W → Calls Tryd.prog 47 #[(vs i).v, .pointer (some ⟨X, 0, none⟩)] W fun r w' => ExB D W (wovE t L[i]) r w') :
    Calls Tryd.prog 48 #[.slice c L.length cc, .func (.func 47) #[] #[.pointer (some ⟨X, 0, none⟩)]] w fun r w' => EachB D w (wovL t L) r w' := by
  obtain ⟨i0, hi, hz0, hz1, hz2⟩ := info_parts infoE
  have HL := hid0 hL
  have HIH := hid0 ih
  have HFl := hid0 hF
  clear hL ih hF
  go_enter Tryd.func48, Tryd.ntmps48
  go_wp2
  go_loopw [5, 7, 10] (fun v _ i wr => ∃ (k : Nat) (xs : List EV), k ≤ L.length ∧ i = .int .i64 (k : Int) ∧ Hid (PE wr w.heap.size (fun b => D b ∨ w.heap.size ≤ b) v ((L.take k).map (wovE t)) xs) ∧ Hid (Below w.heap.size w wr)) (fun _ _ i _ => L.length - (intOf i).toNat)
  case atStart => exact ⟨0, [], Nat.zero_le _, rfl, hid0 (PE.nil _ _ _), hid0 (Below.refl _ _)⟩
  case round =>
    obtain ⟨k, xs, hk, rfl, HP, HB⟩ := hrel
    by_cases hlt : k < L.length
    · have hkI : (k : Int) < (L.length : Int) := by omega
      have hkI0 : (0 : Int) ≤ (k : Int) := by omega
      obtain ⟨g, off, rfl, h5⟩ := HL.out k hlt
      obtain ⟨y0, y1, y2, y3, y4⟩ := h5.past HB.out
      have HTK : Hid ((L.take (k + 1)).map (wovE t) = (L.take k).map (wovE t) ++ [wovE t L[k]]) := hid0 (by rw [List.take_add_one, List.getElem?_eq_getElem hlt, List.map_append]; rfl)
      have HTL : Hid (((L.take k).map (wovE t)).length = k) := hid0 (by rw [List.length_map, List.length_take]; omega)
      have hvs : ∃ av cv, u5 = .slice av k cv := by
        obtain ⟨av, cv, e⟩ := HP.out.form
        rw [HTL.out] at e
        exact ⟨av, cv, e⟩
      obtain ⟨av, cv, rfl⟩ := hvs
      have HC := hid0 (HIH.out k hlt)
      have hbs := HB.out.size
      obtain ⟨k9, t9, a9, m9, c9, b9, n9, d9, g9, l9, z9, hfl⟩ := HFl.out k hlt
      rw [hfl] at y0 y1 y2 y3 y4 HC
      unfold EV.v at HC
      generalize L[k] = p at *
      simp only [] at y0 y1 y2 y3 y4 HC
      clear hfl
      obtain ⟨w1, hw1⟩ : ∃ w1, wr.alloc (.cells #[.int .i64 k9, .bool t9, .slice a9 m9 c9, .slice b9 n9 d9, .slice g9 l9 z9] 28) = w1 := ⟨_, rfl⟩
      obtain ⟨hb1, hr1, hs1⟩ := laid hw1
      obtain ⟨⟨c0, c1, c2, c3, c4⟩, _⟩ := rowE hr1
      have HB1 := hid0 hb1
      have HS1 := hid0 hs1
      clear h5 hb1 hr1 hs1
      go_wp2_with (first
        | (go_at_call 47
           refine (HC.out w1 (Below.later HB.out HB1.out)).mono ?_
           rintro r w2 hr
           obtain ⟨k5, u5', a5, m5, c5, b5, n5, d5, g5, l5, z5, rfl, q1, q2⟩ := hr.shape
           have hb2 := Below.later HB1.out q2
           have HP2 := hid0 (HP.out.past hb2)
           have HQ : Hid (ExIs w2 (fun b => (D b ∨ w.heap.size ≤ b) ∧ (Value.slice av k cv).ownBlock ≠ some b) (wovE t p) ⟨.int .i64 k5, .bool u5', .slice a5 m5 c5, .slice b5 n5 d5, .slice g5 l5 z5⟩) := hid0 (q1.mono (fun b _ hb => by
             have hsz := HS1.out
             refine ⟨hb.imp id (fun h => by omega), fun e => ?_⟩
             have := ownB_lt' HP.out b e
             rcases hb with hb | hb
             · have := hD b hb
               omega
             · omega))
           have HB2 := hid0 hb2
           have HOk : Hid (w2.ownsRow w.heap.size 28 5 (.slice av k cv) k (xs.flatMap evC)) := hid0 (by have ho := HP2.out.own; rw [HTL.out] at ho; exact ho)
           clear hr q1 q2 hb2)
        | (at_builtin; go_loud ((
             refine wpList_append_own_at _ (by rfl) _ _ 26 (by rfl) w.heap.size 28 i0 (.agg #[.int .i64 0, .bool false, .slice none 0 0, .slice none 0 0, .slice none 0 0]) 5 88 Tryd.underlying26 hi hz0 hz1 hz2 rfl (by decide) (.slice av k cv) k (xs.flatMap evC) (by rfl) (World.ownsRow.alloc HOk.out _) ⟨w2.heap.size, 0, none⟩ 1 1 (evC ⟨.int .i64 k5, .bool u5', .slice a5 m5 c5, .slice b5 n5 d5, .slice g5 l5 z5⟩) (by rfl) (by rfl) (cellE_new w2 _ _ _ _ _ _) HQ.out.one (by unfold maxLen; omega) (by omega) (by have := HB2.out.size; simp; omega) ?_
             intro v4 w4 hown4 hgrow4 _ hat4
             have hg4 := Gr.append ((Below.refl _ w2).alloc (Nat.le_refl _) _) hgrow4 hat4
             have HP4 := hid0 (PE.snoc HP2.out HQ.out hg4 (by rw [HTL.out]; exact hown4))
             have HB4 := hid0 (hg4.below (Below.later HB.out HB2.out) (by have := HB2.out.size; omega) (fun q e => (World.ownsRow.lt HOk.out q e).1))
             clear hown4 hgrow4 hat4 hg4)))
        | fail)
      go_roundw
      case rel => exact ⟨k + 1, _, by omega, by go_num, hid0 (by rw [HTK.out]; exact HP4.out), HB4⟩
      case measure => simp [intOf]; omega
    · have hkI : ¬ (k : Int) < (L.length : Int) := by omega
      have HE : Hid (PE wr w.heap.size (fun b => D b ∨ w.heap.size ≤ b) u5 (wovL t L) xs) := hid0 (by have h := HP.out; rw [List.take_of_length_le (by omega), ← wovL_map] at h; exact h)
      go_wp2
      go_ret
      exact ⟨u5, xs, rfl, HE.out, HB.out⟩
end Go.Proofs.YtiapefdklojhdaaDoor
namespace Go.Proofs.YtiapefdklojhdaaDoor
open Go.RowKit Go.Shelf
theorem PE.snoc2 {W w4 : World} {lo : Nat} {Q : Nat → Prop} {v v4 : Value} {L : List Ex} {xs : List EV} {e e2 : Ex} {x x2 : EV} (h : PE W lo Q v L xs) (hx : ExIs W (fun b => Q b ∧ v.ownBlock ≠ some b) e x) (hx2 : ExIs W (fun b => Q b ∧ v.ownBlock ≠ some b) e2 x2) (g : Gr W w4 v v4)
    (ho : w4.ownsRow lo 28 5 v4 (L.length + 2) (xs.flatMap evC ++ (evC x ++ evC x2))) : PE w4 lo Q v4 (L ++ [e, e2]) (xs ++ [x, x2]) := by
  refine ⟨by simp [h.len], ?_, fun k hk hk' => ?_⟩
  · rw [List.length_append, List.flatMap_append]
    exact ho
  · rcases Nat.lt_or_ge k L.length with hl | hl
    · have hl2 : k < xs.length := by rw [h.len]; exact hl
      simp only [List.getElem_append_left hl, List.getElem_append_left hl2]
      exact (h.is k hl hl2).grow g
    · have hlen := h.len
      have hk2 : k = L.length ∨ k = L.length + 1 := by
        rw [List.length_append] at hk
        simp only [List.length_cons, List.length_nil] at hk
        omega
      rcases hk2 with rfl | rfl
      · have e1 : (L ++ [e, e2])[L.length]'hk = e := by rw [List.getElem_append_right (Nat.le_refl _)]; simp
        have e2' : (xs ++ [x, x2])[L.length]'hk' = x := by rw [List.getElem_append_right (by omega)]; simp [hlen]
        rw [e1, e2']
        exact hx.grow g
      · have e1 : (L ++ [e, e2])[L.length + 1]'hk = e2 := by rw [List.getElem_append_right (by omega)]; simp
        have e2' : (xs ++ [x, x2])[L.length + 1]'hk' = x2 := by rw [List.getElem_append_right (by omega)]; simp [hlen]
        rw [e1, e2']
        exact hx2.grow g
/-- What stands between the rounds of wovenRow. -/
structure WR (w W wr : World) (D : Nat → Prop) (v : Value) (M : List Ex) : Prop where
  bel : Below (w.heap.size + 3) W wr
  row : wr.heap[w.heap.size + 3]? = some (.cells #[.int .i64 3, .bool false, .slice none 0 0, .slice none 0 0, v] 28 (0, 0))
  pe : ∃ xs, PE wr (w.heap.size + 4) (fun b => D b ∨ w.heap.size + 4 ≤ b) v M xs
  sz : w.heap.size + 4 ≤ wr.heap.size
theorem WR.past {w W wr w2 : World} {D : Nat → Prop} {v : Value} {M : List Ex} (h : WR w W wr D v M) (k : Below wr.heap.size wr w2) : WR w W w2 D v M := by
  obtain ⟨xs, hp⟩ := h.pe
  have := h.sz
  exact ⟨h.bel.trans (k.mono (by omega)), kept k h.row, ⟨xs, hp.past k⟩, Nat.le_trans this k.size⟩
/-- A new row is stored. -/
theorem WR.stored {w W wr w3 w4 : World} {D : Nat → Prop} {v v4 : Value} {M M' : List Ex} (h : WR w W wr D v M) (hg : Gr wr w4 v v4) (hp : ∃ xs, PE w4 (w.heap.size + 4) (fun b => D b ∨ w.heap.size + 4 ≤ b) v4 M' xs) (hD : ∀ b, D b → b < w.heap.size) (_h3 : w3 = w4) :
    w4.cell? ⟨w.heap.size + 3, 4, none⟩ = some v ∧ w4.frozen? ⟨w.heap.size + 3, 4, none⟩ = false ∧ WR w W (w4.setCell ⟨w.heap.size + 3, 4, none⟩ v4) D v4 M' := by
  obtain ⟨xs0, hp0⟩ := h.pe
  obtain ⟨xs, hp'⟩ := hp
  have hsz := h.sz
  have hne : v.ownBlock ≠ some (w.heap.size + 3) := fun e => by have := (ownB_lt' hp0 _ e).1; omega
  have hr4 : w4.heap[w.heap.size + 3]? = some (.cells #[.int .i64 3, .bool false, .slice none 0 0, .slice none 0 0, v] 28 (0, 0)) := (hg.grow.block _ (by omega) (fun e => hne e.symm)).trans h.row
  obtain ⟨⟨_, _, _, _, k4⟩, _, _, _, _, f4⟩ := rowE hr4
  have hbel : Below (w.heap.size + 3) W w4 := h.bel.grown hg.grow (by omega) (fun q e => by have := (ownB_lt' hp0 q e).1; omega)
  refine ⟨k4, f4, hbel.setCell (p := ⟨w.heap.size + 3, 4, none⟩) (Nat.le_refl _) _, heap_setCell_same _ _ 4 _ _ v4 hr4, ⟨xs, ?_⟩, by have := hg.grow.size; simp; omega⟩
  have hk : Keeps (fun b => (D b ∨ w.heap.size + 4 ≤ b) ∧ v4.ownBlock ≠ some b) w4 (w4.setCell ⟨w.heap.size + 3, 4, none⟩ v4) := ⟨by simp, fun g o hq _ => World.cell?_of_block (w := w4) (a := ⟨g, o, none⟩) (Below.heap_setCell _ _ _ _ (by
    have : g ≠ w.heap.size + 3 := hq.1.elim (fun h => by have := hD g h; omega) (fun h => by omega)
    simpa using this))⟩
  exact ⟨hp'.len, own_blk hp'.own (fun g hg' => Below.heap_setCell _ _ _ _ (by have := (ownB_lt' hp' g hg').1; simp; omega)), fun i p q => (hp'.is i p q).keeps hk⟩
end Go.Proofs.YtiapefdklojhdaaDoor
namespace Go.Proofs.YtiapefdklojhdaaDoor
open Go.RowKit Go.Shelf
open Classical in
/-- Is a word met by an expression? -/
noncomputable def mtB (e : Ex) (l : List Kd) : Bool := okE e && decide (Mt e l)
open Classical in
theorem mtB_iff {e : Ex} (h : okE e = true) (l : List Kd) : mtB e l = true ↔ Mt e l := by
  unfold mtB
  rw [h, Bool.true_and, decide_eq_true_eq]
open Classical in
theorem mtB_no {e : Ex} {l : List Kd} (h : ¬ Mt e l) : mtB e l = false := by
  unfold mtB
  rw [decide_eq_false h, Bool.and_false]
theorem match_at (e : Ex) (x : EV) (Q : Nat → Prop) (l : List Kd) (a : Option Addr) (ca : Nat) (A : Nat → Addr) (w : World) (hl : l.length ≤ 1000000000) (hx : ExIs w Q e x) (hE : E3 w A) (ha : KA w w.heap.size a l) :
    Calls Tryd.prog 11 #[x.v, .slice a l.length ca] w fun r w' => r = .returned (.bool (mtB e l)) ∧ Below w.heap.size w w' := match_full e x Q l a ca A w hl hx hE ha
theorem KA.up {w : World} {B B' : Nat} {a : Option Addr} {l : List Kd} (h : KA w B a l) (hb : B ≤ B') : KA w B' a l := ⟨fun k hk => by
  obtain ⟨b, off, e, h1, h2, h3⟩ := h.at' k hk
  exact ⟨b, off, e, Nat.lt_of_lt_of_le h1 hb, h2, h3⟩⟩
/-- The first so many units, and those behind them. -/
theorem KA.take {w : World} {B : Nat} {a : Option Addr} {l : List Kd} (h : KA w B a l) (i : Nat) : KA w B a (l.take i) := ⟨fun k hk => by
  have hk' : k < l.length := by rw [List.length_take] at hk; omega
  obtain ⟨b, off, e, h1, h2, h3⟩ := h.at' k hk'
  rw [List.getElem_take]
  exact ⟨b, off, e, h1, h2, h3⟩⟩
theorem KA.drop {w : World} {B b off : Nat} {l : List Kd} (h : KA w B (some ⟨b, off, none⟩) l) (i : Nat) : KA w B (some ⟨b, off + i * 2, none⟩) (l.drop i) := ⟨fun k hk => by
  have hk' : i + k < l.length := by rw [List.length_drop] at hk; omega
  obtain ⟨b', off', e, h1, h2, h3⟩ := h.at' (i + k) hk'
  cases e
  rw [List.getElem_drop]
  have q : off + (i + k) * 2 = off + i * 2 + k * 2 := by omega
  rw [q] at h2 h3
  exact ⟨b, off + i * 2, rfl, h1, h2, h3⟩⟩
theorem KA.none (w : World) (B : Nat) (a : Option Addr) : KA w B a [] := ⟨fun _ h => absurd h (Nat.not_lt_zero _)⟩
set_option maxRecDepth 10000 in
set_option maxHeartbeats 800000 in
theorem empty_any (e : Ex) (x : EV) (Q : Nat → Prop) (A : Nat → Addr) (w : World) (hx : ExIs w Q e x) (hE : E3 w A) :
    Calls Tryd.prog 27 #[x.v] w fun r w' => r = .returned (.bool (mtB e [])) ∧ Below w.heap.size w w' := by
  have HM := hid0 (fun (V : World) (hV : Below w.heap.size w V) => match_at e x Q [] none 0 A V (by simp) (hx.past hV) (hE.below hV) (KA.none _ _ _))
  cases hx with
  | mk k nt N P L a ca b cb c cc vs hN hP lN lP lL hL hR =>
    unfold EV.v at HM ⊢
    simp only [List.length_nil] at HM ⊢
    clear hN hP lN lP lL hL hR hE
    generalize mtB (.mk k nt N P L) [] = res at *
    obtain ⟨w1, hw1⟩ : ∃ w1, w.alloc (.cells #[.int .i64 k, .bool nt, .slice a N.length ca, .slice b P.length cb, .slice c L.length cc] 28) = w1 := ⟨_, rfl⟩
    obtain ⟨hb1, hr1, _⟩ := laid hw1
    obtain ⟨⟨x0, x1, x2, x3, x4⟩, _⟩ := rowE hr1
    have HB := hid0 hb1
    clear hb1 hr1
    go_enter Tryd.func27, Tryd.ntmps27
    go_wp2_with (first
      | (go_at_call 11; refine (HM.out _ HB.out).mono ?_; rintro r w2 ⟨rfl, hb2⟩; have HB2 := hid0 (Below.later HB.out hb2); clear hb2)
      | fail)
    go_ret
    exact ⟨rfl, HB2.out⟩
theorem errC_ok {A : Nat → Addr} {c : CR} (h : CR.okB c = true) : errC A c = .nilIface := by
  cases c with
  | ok n s => rfl
  | bad f => cases h
set_option maxRecDepth 10000 in
set_option maxHeartbeats 1600000 in
theorem first_any (A : Nat → Addr) (w : World) (hE : E3 w A) :
    Calls Tryd.prog 9 #[] w fun r w' => r = .returned (.bool true) ∧ Below w.heap.size w w' := by
  obtain ⟨w1, hw1⟩ : ∃ w1, w.alloc (.cells #[.string ⟨#[65]⟩] 9) = w1 := ⟨_, rfl⟩
  obtain ⟨w2, hw2⟩ : ∃ w2, w1.alloc (.cells #[.int .i64 2, .bool false, .slice (some ⟨w.heap.size, 0, none⟩) 1 1, .slice none 0 0, .slice none 0 0] 28) = w2 := ⟨_, rfl⟩
  obtain ⟨w3, hw3⟩ : ∃ w3, w2.alloc (.cells #[.int .i64 66, .int .i64 66] 57) = w3 := ⟨_, rfl⟩
  obtain ⟨w4, hw4⟩ : ∃ w4, w3.alloc (.cells #[.int .i64 2, .bool false, .slice none 0 0, .slice (some ⟨w2.heap.size, 0, none⟩) 1 1, .slice none 0 0] 28) = w4 := ⟨_, rfl⟩
  obtain ⟨w5, hw5⟩ : ∃ w5, w4.alloc (.cells #[.int .i64 2, .bool false, .slice none 0 0, .slice (some ⟨w2.heap.size, 0, none⟩) 1 1, .slice none 0 0] 28) = w5 := ⟨_, rfl⟩
  obtain ⟨w6, hw6⟩ : ∃ w6, w5.alloc (.cells #[.int .i64 2, .bool false, .slice (some ⟨w.heap.size, 0, none⟩) 1 1, .slice none 0 0, .slice none 0 0, .int .i64 6, .bool false, .slice none 0 0, .slice none 0 0, .slice (some ⟨w4.heap.size, 0, none⟩) 1 1] 28) = w6 := ⟨_, rfl⟩
  obtain ⟨w7, hw7⟩ : ∃ w7, w6.alloc (.cells #[.int .i64 3, .bool false, .slice none 0 0, .slice none 0 0, .slice (some ⟨w5.heap.size, 0, none⟩) 2 2] 28) = w7 := ⟨_, rfl⟩
  obtain ⟨w8, hw8⟩ : ∃ w8, w7.alloc (.cells #[.string ⟨#[65]⟩, .int .i64 65, .string ⟨#[88]⟩, .int .i64 66, .string ⟨#[88]⟩, .int .i64 66] 46) = w8 := ⟨_, rfl⟩
  obtain ⟨rA, rB, rE, hx, hk, hb⟩ := first_world w w1 w2 w3 w4 w5 w6 w7 w8 hw1 hw2 hw3 hw4 hw5 hw6 hw7 hw8
  obtain ⟨_, _, s2⟩ := laid hw2
  obtain ⟨_, _, s4⟩ := laid hw4
  obtain ⟨_, _, s7⟩ := laid hw7
  have HRe := hid0 rE
  have HB8 := hid0 hb
  have hE8 := hE.below hb
  have HCk := hid0 (fun (V : World) (hV : Below w8.heap.size w8 V) => check_any mayF eF _ (fun _ => True) A V (hx.past hV) (allM_of (hx.past hV)) (hE8.below hV))
  have HM3 := hid0 (fun (V : World) (hV : Below w8.heap.size w8 V) => match_at eF _ (fun _ => True) wdF (some ⟨w7.heap.size, 0, none⟩) 3 A V (by decide) (hx.past hV) (hE8.below hV) ((hk.below hV).up hV.size))
  have HM1 := hid0 (fun (V : World) (hV : Below w8.heap.size w8 V) => match_at eF _ (fun _ => True) [(⟨#[65]⟩, 65)] (some ⟨w7.heap.size, 0, none⟩) 3 A V (by decide) (hx.past hV) (hE8.below hV) (((hk.below hV).up hV.size).take 1))
  have HEm := hid0 (fun (V : World) (hV : Below w8.heap.size w8 V) => empty_any eF _ (fun _ => True) A V (hx.past hV) (hE8.below hV))
  rw [errC_ok eF_chk] at HCk
  rw [(mtB_iff eF_ok _).2 eF_mt, show wdF.length = 3 from rfl] at HM3
  rw [mtB_no (fun h => absurd (eF_len h) (by decide)), show [((⟨#[65]⟩ : ByteArray), (65 : Int))].length = 1 from rfl] at HM1
  rw [mtB_no (fun h => absurd (eF_len h) (by decide))] at HEm
  unfold EV.v at HCk HM3 HM1 HEm
  simp only at HCk HM3 HM1 HEm
  have HSk : Hid (∀ V, Below w8.heap.size w8 V → V.cell? ⟨w6.heap.size, 0, none⟩ = some (.int .i64 3) ∧ V.cell? ⟨w6.heap.size, 1, none⟩ = some (.bool false) ∧ V.cell? ⟨w6.heap.size, 2, none⟩ = some (.slice none 0 0) ∧ V.cell? ⟨w6.heap.size, 3, none⟩ = some (.slice none 0 0) ∧ V.cell? ⟨w6.heap.size, 4, none⟩ = some (.slice (some ⟨w5.heap.size, 0, none⟩) 2 2)) := hid0 (fun V hV => (rowE (kept hV HRe.out)).1)
  have hs0 := HSk.out _ (Below.refl _ w8).drew
  have HBd := hid0 (Below.refl w8.heap.size w8).drew
  rw [s7] at HM3 HM1
  rw [s2] at hw4 hw5 rB
  rw [s4] at hw6
  clear rE hx hk hb hE hE8 s2 s4 s7
  subst hw2 hw4 hw7
  obtain ⟨⟨a0, a1, a2, a3, a4⟩, _⟩ := rowE rA
  obtain ⟨⟨b0, b1, b2, b3, b4⟩, _⟩ := rowE rB
  clear rA rB
  go_enter Tryd.func9, Tryd.ntmps9
  go_wp2
  go_region_held3 (fun V => V.cell? ⟨w6.heap.size, 0, none⟩ = some (.int .i64 3) ∧ V.cell? ⟨w6.heap.size, 1, none⟩ = some (.bool false) ∧ V.cell? ⟨w6.heap.size, 2, none⟩ = some (.slice none 0 0) ∧ V.cell? ⟨w6.heap.size, 3, none⟩ = some (.slice none 0 0) ∧ V.cell? ⟨w6.heap.size, 4, none⟩ = some (.slice (some ⟨w5.heap.size, 0, none⟩) 2 2))
    (first | assumption)
    (first
      | (go_at_call 10; refine (HCk.out _ HBd.out).mono ?_; rintro r v1 ⟨rfl, hb1⟩; have HB1 := hid0 (Below.later HBd.out hb1); have hs1 := HSk.out _ HB1.out; clear hb1)
      | (go_at_call 11; refine (HM1.out _ HB2.out).mono ?_; rintro r v3 ⟨rfl, hb3⟩; have HB3 := hid0 (Below.later HB2.out hb3); have hs3 := HSk.out _ HB3.out; clear hb3)
      | (go_at_call 11; refine (HM3.out _ HB1.out).mono ?_; rintro r v2 ⟨rfl, hb2⟩; have HB2 := hid0 (Below.later HB1.out hb2); have hs2 := HSk.out _ HB2.out; clear hb2)
      | (go_at_call 27; refine (HEm.out _ HB3.out).mono ?_; rintro r v4 ⟨rfl, hb4⟩; have HB4 := hid0 (Below.later HB3.out hb4); have hs4 := HSk.out _ HB4.out; clear hb4))
  go_wp2
  go_ret
  exact ⟨rfl, Below.later HB8.out HB4.out⟩
end Go.Proofs.YtiapefdklojhdaaDoor
namespace Go.Proofs.YtiapefdklojhdaaDoor
open Go.RowKit Go.Shelf
theorem ExIs.flat {w : World} {Q : Nat → Prop} {e : Ex} {x : EV} (h : ExIs w Q e x) : ∃ k t a m c b n d g l z, x = ⟨.int .i64 k, .bool t, .slice a m c, .slice b n d, .slice g l z⟩ := by
  cases h with
  | mk k nt N P L a ca b cb c cc vs hN hP lN lP lL hL hR => exact ⟨_, _, _, _, _, _, _, _, _, _, _, rfl⟩
/-- A word as a slice. -/
inductive WV (w : World) : Value → List Kd → Prop
  | none : WV w (.slice none 0 0) []
  | some (g off c : Nat) (l : List Kd) (hc : l.length ≤ c) (h : KA w w.heap.size (some ⟨g, off, none⟩) l) : WV w (.slice (some ⟨g, off, none⟩) l.length c) l
theorem WV.past {w w' : World} {v : Value} {l : List Kd} (h : WV w v l) (hb : Below w.heap.size w w') : WV w' v l := by
  cases h with
  | none => exact .none
  | some g off c _ hc h => exact .some g off c l hc ((h.below hb).up hb.size)
theorem WV.form {w : World} {v : Value} {l : List Kd} (h : WV w v l) : ∃ a c, v = .slice a l.length c ∧ KA w w.heap.size a l := by
  cases h with
  | none => exact ⟨_, _, rfl, KA.none _ _ _⟩
  | some g off c _ hc h => exact ⟨_, c, rfl, h⟩
noncomputable def hitB (a b : Ex) (l : List Kd) (i : Nat) : Bool := mtB a (l.take i) && mtB b (l.drop i)
/-- Is a word cut into two that two expressions match? -/
noncomputable def splitB (a b : Ex) (l : List Kd) : Bool := (List.range (l.length + 1)).any (hitB a b l)
theorem splitB_yes {a b : Ex} {l : List Kd} {i : Nat} (hi : i ≤ l.length) (h : hitB a b l i = true) : splitB a b l = true := by
  unfold splitB
  rw [List.any_eq_true]
  exact ⟨i, List.mem_range.2 (by omega), h⟩
theorem splitB_no {a b : Ex} {l : List Kd} (h : ∀ i, i < l.length + 1 → hitB a b l i = false) : splitB a b l = false := by
  unfold splitB
  rw [List.any_eq_false]
  intro i hi
  rw [h i (List.mem_range.1 hi)]
  exact Bool.false_ne_true
theorem splitB_iff {a b : Ex} (ha : okE a = true) (hb : okE b = true) (l : List Kd) : splitB a b l = true ↔ ∃ i, i ≤ l.length ∧ Mt a (l.take i) ∧ Mt b (l.drop i) := by
  unfold splitB hitB
  rw [List.any_eq_true]
  constructor
  · rintro ⟨i, h1, h2⟩
    rw [Bool.and_eq_true, mtB_iff ha, mtB_iff hb] at h2
    exact ⟨i, by have := List.mem_range.1 h1; omega, h2⟩
  · rintro ⟨i, h1, h2⟩
    exact ⟨i, List.mem_range.2 (by omega), by rw [Bool.and_eq_true, mtB_iff ha, mtB_iff hb]; exact h2⟩
/-- Match of what stands ahead of a cut, and behind it. -/
theorem match_head (e : Ex) (x : EV) (Q : Nat → Prop) (l : List Kd) (g off c i : Nat) (A : Nat → Addr) (w : World) (hl : l.length ≤ 12) (hi : i ≤ l.length) (hx : ExIs w Q e x) (hE : E3 w A) (ha : KA w w.heap.size (some ⟨g, off, none⟩) l) :
    Calls Tryd.prog 11 #[x.v, .slice (some ⟨g, off, none⟩) i c] w fun r w' => r = .returned (.bool (mtB e (l.take i))) ∧ Below w.heap.size w w' := by
  have h := match_at e x Q (l.take i) (some ⟨g, off, none⟩) c A w (by rw [List.length_take]; omega) hx hE (ha.take i)
  rw [List.length_take, Nat.min_eq_left hi] at h
  exact h
theorem match_tail (e : Ex) (x : EV) (Q : Nat → Prop) (l : List Kd) (g off c i : Nat) (A : Nat → Addr) (w : World) (hl : l.length ≤ 12) (hc : l.length ≤ c) (hx : ExIs w Q e x) (hE : E3 w A) (ha : KA w w.heap.size (some ⟨g, off, none⟩) l) :
    Calls Tryd.prog 11 #[x.v, .slice (if c = i then some ⟨g, off, none⟩ else some ⟨g, off + i * 2, none⟩) (l.length - i) (c - i)] w fun r w' => r = .returned (.bool (mtB e (l.drop i))) ∧ Below w.heap.size w w' := by
  have hk : KA w w.heap.size (if c = i then some ⟨g, off, none⟩ else some ⟨g, off + i * 2, none⟩) (l.drop i) := by
    split
    · rw [List.drop_of_length_le (by omega)]
      exact KA.none _ _ _
    · exact ha.drop i
  have h := match_at e x Q (l.drop i) _ (c - i) A w (by rw [List.length_drop]; omega) hx hE hk
  rw [List.length_drop] at h
  exact h
end Go.Proofs.YtiapefdklojhdaaDoor
