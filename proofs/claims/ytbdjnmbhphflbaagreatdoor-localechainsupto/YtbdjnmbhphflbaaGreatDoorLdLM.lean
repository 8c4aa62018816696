/-
  What both Chains answer, in one form; a section's parent written over.
-/
import Derived.Test.YtbdjnmbhphflbaaGreatDoorLdKW
import Derived.Test.YtbdjnmbhphflbaaGreatDoorLcEW
namespace Go.Proofs.YtbdjnmbhphflbaaGreatDoor
open Go.RowKit Go.Shelf Go.Lib
def lstR : CR → List ByteArray
  | .ok l => l
  | .bad _ => []
def errR (A : Nat → Addr) : CR → Value
  | .ok _ => .nilIface
  | .bad i => .iface 192 (.pointer (some (A i)))
def numR : CR → Int
  | .ok _ => 0
  | .bad i => refNo i
theorem goChain_lst {A : Nat → Addr} {base : Nat} {w' : World} {r : CR} {e : Ending} (h : GoChain A base w' r e) : ∃ a cap, e = .returned (.tuple #[.slice a (lstR r).length cap, errR A r]) ∧ SA w' a (lstR r) := by
  cases r with
  | ok l =>
    obtain ⟨v, rfl, ho⟩ := h
    obtain ⟨a, cap, rfl, hs, _⟩ := ho.sa
    exact ⟨a, cap, rfl, hs⟩
  | bad i => exact ⟨none, 0, h, ⟨fun k hk => absurd hk (Nat.not_lt_zero _)⟩⟩
theorem refChain_lst {base : Nat} {w' : World} {r : CR} {e : Ending} (h : RefChain base w' r e) : ∃ a cap, e = .returned (.tuple #[.slice a (lstR r).length cap, .int .i64 (numR r)]) ∧ SA w' a (lstR r) := by
  cases r with
  | ok l =>
    obtain ⟨v, rfl, ho⟩ := h
    obtain ⟨a, cap, rfl, hs, _⟩ := ho.sa
    exact ⟨a, cap, rfl, hs⟩
  | bad i => exact ⟨none, 0, h, ⟨fun k hk => absurd hk (Nat.not_lt_zero _)⟩⟩
theorem chainGo_ok (L : List Sec) : ∀ (f : Nat) (ch : List ByteArray) (last : ByteArray), ch.length ≤ 16 → (∀ i, chainGo L f ch last = .bad i → i < 11) ∧ (lstR (chainGo L f ch last)).length ≤ 16
  | 0, _, _, _ => ⟨fun i h => by simp only [chainGo, CR.bad.injEq] at h; omega, by simp [chainGo, lstR]⟩
  | f + 1, ch, last, hc => by
    rw [chainGo]
    split
    · exact ⟨(fun i h => by cases h), by simpa [lstR] using hc⟩
    · split
      · exact ⟨fun i h => by simp only [CR.bad.injEq] at h; omega, by simp [lstR]⟩
      · split
        · exact ⟨fun i h => by simp only [CR.bad.injEq] at h; omega, by simp [lstR]⟩
        · rename_i hn
          exact chainGo_ok L f _ _ (by rw [List.length_append, List.length_singleton]; omega)
theorem chainF_ok (L : List Sec) (t : ByteArray) : (∀ i, chainF L t = .bad i → i < 11) ∧ (lstR (chainF L t)).length ≤ 16 := by
  unfold chainF
  cases hk : chkE entE L with
  | some i => exact ⟨fun j h => by simp only [CR.bad.injEq] at h; have := chkE_lt hk; omega, by simp [lstR]⟩
  | none =>
    simp only
    cases hq : tagF t.data.toList with
    | none => exact ⟨fun j h => by simp only [CR.bad.injEq] at h; omega, by simp [lstR]⟩
    | some c => exact chainGo_ok L 17 _ _ (by simp)
theorem num_r {w : World} {A : Nat → Addr} (h : Sents w A) (r : CR) (hr : ∀ i, r = .bad i → i < 11) : Calls Tryz.prog 14 #[errR A r] w fun e w' => e = .returned (.int .i64 (numR r)) ∧ w' = w := by
  cases r with
  | ok l => exact kitNum_nil w
  | bad i => exact kitNum_at w A h i (hr i rfl)
def clr (s : Sec) : Sec := ⟨s.loc, ⟨#[]⟩, s.ed⟩
def clrA (x : SecAt) : SecAt := ⟨clr x.s, x.blk, x.cap⟩
theorem cellsX_set (S : List SecAt) : ∀ (k : Nat) (h : k < S.length), (cellsX S).set (k * 3 + 1) (.string ⟨#[]⟩) = cellsX (S.set k (clrA S[k])) := by
  induction S with
  | nil => intro k h; simp at h
  | cons u l ih =>
    intro k h
    have e : cellsX (u :: l) = .string u.s.loc :: .string u.s.par :: .slice (some ⟨u.blk, 0, none⟩) u.s.ed.length u.cap :: cellsX l := rfl
    cases k with
    | zero => rw [e]; rfl
    | succ k =>
      have h2 := ih k (by simpa using h)
      rw [e, show (k + 1) * 3 + 1 = (k * 3 + 1) + 1 + 1 + 1 by omega]
      simp only [List.set_cons_succ, List.getElem_cons_succ]
      rw [h2]
      rfl
theorem Giv.par {w : World} {lo g n cap m : Nat} {S : List SecAt} (h : Giv w lo (.slice (some ⟨g, 0, none⟩) n cap) S m) (hn : n = S.length + m) (k : Nat) (hk : k < S.length) : Giv (w.setCell ⟨g, k * 3 + 1, none⟩ (.string ⟨#[]⟩)) lo (.slice (some ⟨g, 0, none⟩) n cap) (S.set k (clrA S[k])) m := by
  subst hn
  have hl := cellsX_length S
  have h1 := (World.ownsRow.stored h.row (k * 3 + 1) (.string ⟨#[]⟩)).1
  rw [List.set_append_left _ _ (by omega), cellsX_set S k hk] at h1
  have key : ∀ x ∈ S.set k (clrA S[k]), ∃ y ∈ S, x.blk = y.blk ∧ x.cap = y.cap ∧ x.s.ed = y.s.ed := fun x hx => by
    rcases List.mem_or_eq_of_mem_set hx with h2 | h2
    · exact ⟨x, h2, rfl, rfl, rfl⟩
    · exact ⟨S[k], List.getElem_mem hk, by rw [h2]; rfl, by rw [h2]; rfl, by rw [h2]; rfl⟩
  refine ⟨by rw [List.length_set]; exact h1, fun x hx => ?_, fun x hx => ?_⟩
  · obtain ⟨y, hy, e1, e2, e3⟩ := key x hx
    rw [e1, e2, e3]
    exact own_blk (h.ed y hy) (fun q hq => by cases hq; exact Below.heap_setCell w _ _ y.blk (fun e => h.ne y hy (by rw [e]; rfl)))
  · obtain ⟨y, hy, e1, _, _⟩ := key x hx
    rw [e1]
    exact h.ne y hy
theorem Giv.parCell {w : World} {lo g n cap m : Nat} {S : List SecAt} (h : Giv w lo (.slice (some ⟨g, 0, none⟩) n cap) S m) (hn : n = S.length + m) (k : Nat) (hk : k < S.length) : w.cell? ⟨g, k * 3 + 1, none⟩ = some (.string S[k].s.par) ∧ w.frozen? ⟨g, k * 3 + 1, none⟩ = false := by
  subst hn
  have hl := cellsX_length S
  exact ⟨by rw [World.ownsRow.cellAt h.row _ (by omega), List.getElem?_append_left (by omega)]; exact (cellsX_at S k hk).2.1, World.ownsRow.frozenAt h.row _⟩
theorem clr_step (L : List Sec) (k : Nat) (h : k < L.length) (S : List SecAt) (hS : S.map (·.s) = (L.take k).map clr ++ L.drop k) (hk : k < S.length) : (S.set k (clrA S[k])).map (·.s) = (L.take (k + 1)).map clr ++ L.drop (k + 1) := by
  have e1 : S[k].s = L[k] := by
    have h1 : (S.map (·.s))[k]'(by simpa using hk) = S[k].s := by simp
    have h2 : (S.map (·.s))[k]? = some L[k] := by
      rw [hS, List.getElem?_append_right (by simp; omega)]
      simp only [List.length_map, List.length_take]
      rw [show k - min k L.length = 0 by omega, List.getElem?_drop]
      simp [h]
    rw [List.getElem?_eq_getElem (by simpa using hk), Option.some.injEq] at h2
    rw [← h1, h2]
  rw [List.map_set, hS, show (clrA S[k]).s = clr L[k] by rw [← e1]; rfl, List.set_append_right _ _ (by simp; omega)]
  simp only [List.length_map, List.length_take]
  rw [show k - min k L.length = 0 by omega, List.drop_eq_getElem_cons h, List.set_cons_zero, List.take_succ_eq_append_getElem h, List.map_append, List.append_assoc]
  rfl
end Go.Proofs.YtbdjnmbhphflbaaGreatDoor
