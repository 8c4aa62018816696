/-
  The lines of a property file, one after another; what both readings come to at the end.
-/
import Derived.Test.YthdmhelgmejicaaGreatDoorPfSp3M
import Derived.Test.YthdmhelgmejicaaGreatDoorPfCkW
namespace Go.Proofs.YthdmhelgmejicaaGreatDoor
/-- The ranges of a name among all claims, in their order. -/
def partsOf (cl : List Sp) (k : Nat) : List (Int × Int) := (cl.filter fun t => decide (t.2.2 = (k : Int))).map fun t => (t.1, t.2.1)
theorem parts_pts (cl : List Sp) (k : Nat) (p : Int) : pts (partsOf cl k) p = true ↔ ptsOf cl (k : Int) p := by
  unfold pts partsOf
  rw [List.any_eq_true]
  constructor
  · rintro ⟨r, hr, h⟩
    obtain ⟨t, ht, rfl⟩ := List.mem_map.1 hr
    rw [List.mem_filter] at ht
    rw [hasR_iff] at h
    exact ⟨t, ht.1, by simpa using ht.2, h.1, h.2⟩
  · rintro ⟨t, ht, h1, h2, h3⟩
    exact ⟨(t.1, t.2.1), List.mem_map.2 ⟨t, List.mem_filter.2 ⟨ht, by simpa using h1⟩, rfl⟩, by rw [hasR_iff]; exact ⟨h2, h3⟩⟩
theorem parts_snoc (cl : List Sp) (s : Sp) (k : Nat) : partsOf (cl ++ [s]) k = partsOf cl k ++ (if s.2.2 = (k : Int) then [(s.1, s.2.1)] else []) := by
  unfold partsOf
  rw [List.filter_append, List.map_append]
  congr 1
  by_cases h : s.2.2 = (k : Int)
  · simp [h]
  · simp [h]
theorem final_eq (cl sp : List Sp) (hr : Rise sp) (hm : ∀ t, t ∈ sp ↔ t ∈ cl) (n : Nat) (hn : ∀ t ∈ cl, ∃ k, k < n ∧ t.2.2 = ((k : Nat) : Int)) (N : Nat → List (Int × Int)) (hN : ∀ j, NormF 0 (N j)) (hpt : ∀ k, k < n → ∀ p, pts (N k) p = pts (partsOf cl k) p) (hout : ∀ k, ¬ k < n → N k = [])
    (B : List Sp) (hp : B.Perm (allT N n)) (hs : B.Pairwise (fun a b => a.1 ≤ b.1)) : B = joinL sp := by
  have hnk : ∀ k p, pts (N k) p = true → k < n ∧ ptsOf cl (k : Int) p := fun k p h => by
    by_cases hk : k < n
    · rw [hpt k hk] at h
      exact ⟨hk, (parts_pts cl k p).1 h⟩
    · rw [hout k hk] at h; simp [pts] at h
  have hd : ∀ i j p, pts (N i) p = true → pts (N j) p = true → i = j := fun i j p h1 h2 => by
    obtain ⟨_, t, ht, e1, a1, a2⟩ := hnk i p h1
    obtain ⟨_, u, hu, e2, b1, b2⟩ := hnk j p h2
    have ht' := (hm t).2 ht
    have hu' := (hm u).2 hu
    rcases pair_mem hr.up ht' hu' with rfl | h | h
    · omega
    · omega
    · omega
  obtain ⟨g1, g2, _⟩ := join_good sp hr
  refine (sorted_good N hN n hd B hp hs).unique g1 (fun j p => ?_)
  rw [sorted_pts N n B hp, g2]
  constructor
  · rintro ⟨k, hk, rfl, h⟩
    obtain ⟨_, t, ht, h⟩ := hnk k p h
    exact ⟨t, (hm t).2 ht, h⟩
  · rintro ⟨t, ht, h1, h2, h3⟩
    have ht' := (hm t).1 ht
    obtain ⟨k, hk, e⟩ := hn t ht'
    refine ⟨k, hk, by omega, ?_⟩
    rw [hpt k hk]
    exact (parts_pts cl k p).2 ⟨t, ht', e, h2, h3⟩
/-- What the lines up to here have said. -/
structure PS where
  names : List ByteArray
  cl : List Sp
  sp : List Sp
/-- A line is taken, or refused: the refusal's place among the eleven. -/
inductive LR where
  | go (s : PS)
  | stop (i : Nat)
/-- The place of a name: where it stands, or behind the last. -/
def atOf (names : List ByteArray) (nm : ByteArray) : Int := if Lib.idxOfS names nm < 0 then (names.length : Int) else Lib.idxOfS names nm
def lineStep (s : PS) (b : By) : LR :=
  if b = [] then .go s else
  match saidL b with
  | none => .stop 1
  | some (lo, hi, nm) =>
    match chkNo lo hi nm with
    | some i => .stop i
    | none =>
      if 65536 < s.cl.length + 1 ∨ (Lib.idxOfS s.names (rd nm) < 0 ∧ 62 ≤ s.names.length) then .stop 2
      else if s.sp.any (meets ((lo : Int), (hi : Int), atOf s.names (rd nm))) then .stop 4
      else .go ⟨if Lib.idxOfS s.names (rd nm) < 0 then s.names ++ [rd nm] else s.names, s.cl ++ [((lo : Int), (hi : Int), atOf s.names (rd nm))], putS s.sp ((lo : Int), (hi : Int), atOf s.names (rd nm))⟩
/-- All lines, from a number on. -/
inductive PR where
  | ok (s : PS)
  | bad (line i : Nat)
def linesRun (s : PS) (k : Nat) : List By → PR
  | [] => .ok s
  | b :: r => match lineStep s (bareOf b) with
    | .go s' => linesRun s' (k + 1) r
    | .stop i => .bad (k + 1) i
def parseL (l : By) : PR := linesRun ⟨[], [], []⟩ 0 (linesOf l)
/-- What holds of what was said. -/
structure PS.Ok (s : PS) : Prop where
  rise : Rise s.sp
  mem : ∀ t, t ∈ s.sp ↔ t ∈ s.cl
  bnd : ∀ t ∈ s.cl, 0 ≤ t.1 ∧ t.2.1 ≤ 1114111 ∧ ∃ k, k < s.names.length ∧ t.2.2 = ((k : Nat) : Int)
theorem idx_bound (L : List ByteArray) (x : ByteArray) (h : ¬ Lib.idxOfS L x < 0) : ∃ k, k < L.length ∧ Lib.idxOfS L x = ((k : Nat) : Int) := by
  unfold Lib.idxOfS at h ⊢
  have key : ∀ (L : List ByteArray) (i : Nat), ¬ Lib.idxFromS L x i < 0 → ∃ k, k < L.length ∧ Lib.idxFromS L x i = ((i + k : Nat) : Int) := by
    intro L
    induction L with
    | nil => intro i h; simp [Lib.idxFromS] at h
    | cons z zs ih =>
      intro i h
      rw [Lib.idxFromS] at h ⊢
      by_cases e : z = x
      · rw [if_pos e]; exact ⟨0, by simp, rfl⟩
      · rw [if_neg e] at h ⊢
        obtain ⟨k, hk, he⟩ := ih (i + 1) h
        exact ⟨k + 1, by simp; omega, by rw [he]; omega⟩
  obtain ⟨k, hk, he⟩ := key L 0 h
  exact ⟨k, hk, by rw [he]; simp⟩
theorem PS.Ok.step {s s' : PS} {b : By} (h : s.Ok) (hs : lineStep s b = .go s') : s'.Ok := by
  unfold lineStep at hs
  split at hs
  · obtain rfl := LR.go.inj hs; exact h
  · split at hs
    · exact absurd hs (by simp)
    · rename_i lo hi nm hsaid
      split at hs
      · exact absurd hs (by simp)
      · rename_i hchk
        split at hs
        · exact absurd hs (by simp)
        · split at hs
          · exact absurd hs (by simp)
          · rename_i hno
            obtain rfl := LR.go.inj hs
            unfold chkNo at hchk
            split at hchk
            · simp at hchk
            · split at hchk
              · simp at hchk
              · rename_i h1 h2
                have hb1 : ¬ 1114111 < hi := fun e => h1 (.inr (.inl e))
                have hat : ∃ k, k < (if Lib.idxOfS s.names (rd nm) < 0 then s.names ++ [rd nm] else s.names).length ∧ atOf s.names (rd nm) = ((k : Nat) : Int) := by
                  unfold atOf
                  by_cases e : Lib.idxOfS s.names (rd nm) < 0
                  · rw [if_pos e, if_pos e]; exact ⟨s.names.length, by simp, rfl⟩
                  · rw [if_neg e, if_neg e]; exact idx_bound _ _ e
                have hlen : s.names.length ≤ (if Lib.idxOfS s.names (rd nm) < 0 then s.names ++ [rd nm] else s.names).length := by split <;> simp
                refine ⟨rise_put _ _ h.rise (by simp only; omega) (fun t ht => ?_), fun t => ?_, fun t ht => ?_⟩
                · have := hno
                  rw [Bool.not_eq_true, List.any_eq_false] at this
                  simpa using this t ht
                · rw [putS_mem, List.mem_append, h.mem]
                  simp only [List.mem_singleton]
                  exact ⟨fun x => x.elim .inr .inl, fun x => x.elim .inr .inl⟩
                · rcases List.mem_append.1 ht with ht | ht
                  · obtain ⟨a, c, k, hk, e⟩ := h.bnd t ht
                    exact ⟨a, c, k, Nat.lt_of_lt_of_le hk hlen, e⟩
                  · simp only [List.mem_singleton] at ht
                    subst ht
                    obtain ⟨k, hk, e⟩ := hat
                    exact ⟨by simp only; omega, by simp only; omega, k, hk, e⟩
end Go.Proofs.YthdmhelgmejicaaGreatDoor
