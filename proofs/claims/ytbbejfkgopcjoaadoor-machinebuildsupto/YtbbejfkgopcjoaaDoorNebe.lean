/-
  MfNM, MfBM, MfCM.
-/
import Derived.Test.YtbbejfkgopcjoaaDoorNebd
import Derived.Test.YtbbejfkgopcjoaaDoorNeba
namespace Go.Proofs.YtbbejfkgopcjoaaDoor
open Go.RowKit Go.Shelf
/-- States in a row of one's own; their lists lie in no block of P, nor in the row's own. -/
structure StsI (W : World) (lo : Nat) (P : Nat → Prop) (vA : Value) (all : List Rst) : Prop where
  own : ∃ VS, W.ownsRow lo 76 2 vA all.length VS ∧ ∀ i (h : i < all.length), ∃ aT cT, VS[i * 2]? = some (.slice aT (all[i]).1.length cT) ∧ VS[i * 2 + 1]? = some (.bool (all[i]).2) ∧ RwF W (fun k => P k ∨ vA.ownBlock = some k) aT ((all[i]).1.map nI)
theorem StsI.alld {W : World} {lo : Nat} {P : Nat → Prop} {vA : Value} {all : List Rst} (h : StsI W lo P vA all) (h0 : 0 < all.length) : ∃ g c, vA = .slice (some ⟨g, 0, none⟩) all.length c ∧ AllD W (some ⟨g, 0, none⟩) all := by
  obtain ⟨VS, h1, h2⟩ := h.own
  obtain ⟨g, c, e, _, hl, _⟩ := own_form h1 h0
  refine ⟨g, c, e, ⟨fun i hi => ?_⟩⟩
  obtain ⟨aT, cT, k1, k2, k3⟩ := h2 i hi
  subst e
  have d1 := World.ownsRow.cellAt h1 (i * 2) (by omega)
  have d2 := World.ownsRow.cellAt h1 (i * 2 + 1) (by omega)
  exact ⟨g, 0, rfl, hl, aT, cT, by rw [Nat.zero_add, d1, k1], by rw [Nat.zero_add, d2, k2], k3.rwa⟩
/-- What is written elsewhere leaves them. -/
theorem StsI.keep {W W' : World} {lo : Nat} {P P' Q : Nat → Prop} {vA : Value} {all : List Rst} (h : StsI W lo P vA all) (hO : Only W W' Q) (hQ : ∀ k, Q k → P k) (hv : ∀ k, vA.ownBlock = some k → ¬ Q k) (hP : ∀ k, k < W.heap.size → P' k → P k) : StsI W' lo P' vA all := by
  obtain ⟨VS, h1, h2⟩ := h.own
  refine ⟨VS, own_blk h1 (fun k hk => hO.block k (World.ownsRow.lt h1 k hk).2 (hv k hk)), fun i hi => ?_⟩
  obtain ⟨aT, cT, k1, k2, k3⟩ := h2 i hi
  exact ⟨aT, cT, k1, k2, k3.keep hO.size (fun k hk hn => hO.block k hk (fun q => hn (.inl (hQ k q)))) (fun k hk q => q.elim (fun q => .inl (hP k hk q)) .inr)⟩
theorem StsI.past {W W' : World} {lo : Nat} {P : Nat → Prop} {vA : Value} {all : List Rst} (h : StsI W lo P vA all) (hb : Below W.heap.size W W') : StsI W' lo P vA all := h.keep (Q := fun _ => False) (Only.ofBelow hb _ (fun k h1 h2 => by omega)) (fun _ q => q.elim) (fun _ _ q => q) (fun _ _ q => q)
theorem StsI.snoc {W W2 : World} {lo : Nat} {P : Nat → Prop} {v v' : Value} {all : List Rst} {VS : List Value} {s : Rst} {aT : Option Addr} {cT : Nat} {o : Obj} (h1 : W.ownsRow lo 76 2 v all.length VS) (h2 : ∀ i (h : i < all.length), ∃ aT cT, VS[i * 2]? = some (.slice aT (all[i]).1.length cT) ∧ VS[i * 2 + 1]? = some (.bool (all[i]).2) ∧ RwF W (fun k => P k ∨ v.ownBlock = some k) aT ((all[i]).1.map nI))
    (hs : RwF W (fun k => P k ∨ v.ownBlock = some k) aT (s.1.map nI)) (hown : W2.ownsRow lo 76 2 v' (all.length + 1) (VS ++ [.slice aT s.1.length cT, .bool s.2])) (hg : (W.alloc o).grownBy W2 v.ownBlock) (hat : v'.ownBlock = v.ownBlock ∨ v'.ownBlock = some (W.alloc o).heap.size) : StsI W2 lo P v' (all ++ [s]) := by
  have hVl : VS.length = all.length * 2 := h1.1
  have hsz : W.heap.size ≤ W2.heap.size := by have := hg.size; simp at this; omega
  have hkp : ∀ k, k < W.heap.size → ¬ (P k ∨ v.ownBlock = some k) → W2.heap[k]? = W.heap[k]? := fun k hk hn => by
    rw [hg.block k (by simp; omega) (fun e => hn (.inr e.symm)), Below.heap_alloc W o k hk]
  have hav : ∀ k, k < W.heap.size → (P k ∨ v'.ownBlock = some k) → (P k ∨ v.ownBlock = some k) := fun k hk q => by
    rcases q with q | q
    · exact .inl q
    · rcases hat with hat | hat
      · rw [hat] at q; exact .inr q
      · rw [hat] at q
        injection q with q
        simp at q
        omega
  refine ⟨VS ++ [.slice aT s.1.length cT, .bool s.2], by rw [List.length_append]; exact hown, fun i hi => ?_⟩
  by_cases hil : i < all.length
  · obtain ⟨a, c, k1, k2, k3⟩ := h2 i hil
    refine ⟨a, c, ?_, ?_, ?_⟩
    · rw [List.getElem?_append_left (by omega), k1, List.getElem_append_left hil]
    · rw [List.getElem?_append_left (by omega), k2, List.getElem_append_left hil]
    · rw [List.getElem_append_left hil]; exact k3.keep hsz hkp hav
  · have hie : i = all.length := by rw [List.length_append, List.length_singleton] at hi; omega
    subst hie
    refine ⟨aT, cT, ?_, ?_, ?_⟩
    · rw [List.getElem?_append_right (by omega), hVl, Nat.sub_self, List.getElem_append_right (Nat.le_refl _)]; simp
    · rw [List.getElem?_append_right (by omega), hVl, List.getElem_append_right (Nat.le_refl _)]; simp
    · rw [List.getElem_append_right (Nat.le_refl _)]; simp only [Nat.sub_self, List.getElem_cons_zero]; exact hs.keep hsz hkp hav
/-- The blocks of a machine that is made, but for its rows' own. -/
def PM (M : Nat) (vN vO : Value) (k : Nat) : Prop := k = M ∨ vN.ownBlock = some k ∨ vO.ownBlock = some k
/-- A machine that is being made. -/
structure MaI (W : World) (lo M : Nat) (vN vO : Value) (NX OU : List Value) (nx ou : List (List Nat)) : Prop where
  box : W.heap[M]? = some (.cells #[.int .i64 0, vN, vO] 28 (0, 0))
  nx : RwsM W lo vN NX nx
  ou : RwsM W lo vO OU ou
  apt : Apt vN vO
theorem MaI.keB {T : List TypeId} {W W' : World} {lo M : Nat} {vN vO : Value} {NX OU : List Value} {nx ou : List (List Nat)} (h : MaI W lo M vN vO NX OU nx ou) (hk : KeB T W W') (h0 : 28 ∉ T) (h1 : 34 ∉ T) (h2 : 3 ∉ T) : MaI W' lo M vN vO NX OU nx ou := ⟨hk.kp M _ h.box (fun _ _ _ e => by injection e with _ e2; rw [← e2]; exact h0), h.nx.keB hk h1 h2, h.ou.keB hk h1 h2, h.apt⟩
theorem MaI.lt {W : World} {lo M : Nat} {vN vO : Value} {NX OU : List Value} {nx ou : List (List Nat)} (h : MaI W lo M vN vO NX OU nx ou) {k : Nat} (hk : PM M vN vO k) : k < W.heap.size := by
  rcases hk with rfl | hk | hk
  · exact (Array.getElem?_eq_some_iff.1 h.box).1
  · exact (World.ownsRow.lt h.nx.outer k hk).2
  · exact (World.ownsRow.lt h.ou.outer k hk).2
/-- No block of it holds states. -/
theorem MaI.no {W : World} {lo lo' M n : Nat} {vN vO vA : Value} {NX OU VS : List Value} {nx ou : List (List Nat)} (h : MaI W lo M vN vO NX OU nx ou) (hA : W.ownsRow lo' 76 2 vA n VS) (k : Nat) (hk : vA.ownBlock = some k) : ¬ PM M vN vO k := fun q => by
  obtain ⟨cs, e⟩ := own_typ hA hk
  rcases q with rfl | q | q
  · rw [h.box] at e
    injection e with e
    injection e with _ e
    exact absurd e (by decide)
  · exact Apt.ofTyp hA h.nx.outer (by decide) k hk q
  · exact Apt.ofTyp hA h.ou.outer (by decide) k hk q
theorem MaI.addN {W W1 : World} {lo M n : Nat} {vN vO v' x : Value} {NX OU : List Value} {nx ou : List (List Nat)} {l : List Nat} {o : Obj} (h : MaI W lo M vN vO NX OU nx ou) (hx : OwnI W lo x (nI l)) (hn : n = NX.length) (hown : W1.ownsRow lo 34 1 v' (n + 1) (NX ++ [x])) (hg : (W.alloc o).grownBy W1 vN.ownBlock) (hat : v'.ownBlock = vN.ownBlock ∨ v'.ownBlock = some (W.alloc o).heap.size) :
    W1.heap[M]? = some (.cells #[.int .i64 0, vN, vO] 28 (0, 0)) ∧ MaI (W1.setCell ⟨M, 1, none⟩ v') lo M v' vO (NX ++ [x]) OU (nx ++ [l]) ou ∧ Only W (W1.setCell ⟨M, 1, none⟩ v') (PM M vN vO) ∧ (∀ k, k < W.heap.size → PM M v' vO k → PM M vN vO k) := by
  subst hn
  have hMW := (Array.getElem?_eq_some_iff.1 h.box).1
  have hnM : vN.ownBlock ≠ some M := fun e => by
    obtain ⟨cs, q⟩ := own_typ h.nx.outer e
    rw [h.box] at q
    injection q with q
    injection q with _ q
    exact absurd q (by decide)
  have keep : ∀ k, k < W.heap.size → vN.ownBlock ≠ some k → W1.heap[k]? = W.heap[k]? := fun k hk hne => by
    rw [hg.block k (by simp; omega) (fun e => hne e.symm), Below.heap_alloc W o k hk]
  have hb1 := (keep M hMW hnM).trans h.box
  have hb2 := heap_setCell_same W1 M 1 _ _ v' hb1
  have hs1 : W.heap.size ≤ W1.heap.size := by have := hg.size; simp at this; omega
  have hO1 : Only W W1 (fun k => vN.ownBlock = some k) := ⟨hg.os, hg.tape, hg.output, hs1, keep⟩
  have hO2 : Only W1 (W1.setCell ⟨M, 1, none⟩ v') (fun k => k = M) := Only.setCell W1 M 1 v'
  have hkA : KeB [34] W W1 := KeB.row h.nx.outer (by simp) hO1
  have hkC : KeB [28] W1 (W1.setCell ⟨M, 1, none⟩ v') := KeB.cell hb1 (by simp) v'
  have hap : ∀ k, v'.ownBlock = some k → k < W.heap.size → vN.ownBlock = some k := fun k hk hl => by
    rcases hat with hat | hat
    · rw [← hat]; exact hk
    · rw [hat] at hk
      injection hk with hk
      simp at hk
      omega
  have hgrow : RwsM (W1.setCell ⟨M, 1, none⟩ v') lo v' (NX ++ [x]) (nx ++ [l]) := by
    refine RwsM.inner h.nx ((hkA.mono (T' := [34, 28]) (by simp)).trans (hkC.mono (by simp))) (by decide) ?_ hx
    rw [List.length_append]
    exact hkC.own hown (by decide)
  have hoth : RwsM (W1.setCell ⟨M, 1, none⟩ v') lo vO OU ou := by
    refine RwsM.keB (RwsM.keep h.ou (fun k hk => keep k (World.ownsRow.lt h.ou.outer k hk).2 (fun e => h.apt k e hk)) (fun y hy k hk => ?_)) hkC (by decide) (by decide)
    obtain ⟨l', hl'⟩ := h.ou.mem hy
    exact keep k (World.ownsRow.lt hl' k hk).2 (fun e => Apt.ofTyp h.nx.outer hl' (by decide) k e hk)
  refine ⟨hb1, ⟨hb2, hgrow, hoth, ?_⟩, ?_, fun k hk q => ?_⟩
  · intro k hk e
    exact h.apt k (hap k hk (World.ownsRow.lt h.ou.outer k e).2) e
  · refine ⟨hg.os, hg.tape, hg.output, ?_, fun k hk hn => ?_⟩
    · have := hO2.size; omega
    · rw [hO2.block k (by omega) (fun e => hn (.inl e)), keep k hk (fun e => hn (.inr (.inl e)))]
  · rcases q with q | q | q
    · exact .inl q
    · exact .inr (.inl (hap k q hk))
    · exact .inr (.inr q)
theorem MaI.addO {W W1 : World} {lo M n : Nat} {vN vO v' x : Value} {NX OU : List Value} {nx ou : List (List Nat)} {l : List Nat} {o : Obj} (h : MaI W lo M vN vO NX OU nx ou) (hx : OwnI W lo x (nI l)) (hn : n = OU.length) (hown : W1.ownsRow lo 34 1 v' (n + 1) (OU ++ [x])) (hg : (W.alloc o).grownBy W1 vO.ownBlock) (hat : v'.ownBlock = vO.ownBlock ∨ v'.ownBlock = some (W.alloc o).heap.size) :
    W1.heap[M]? = some (.cells #[.int .i64 0, vN, vO] 28 (0, 0)) ∧ MaI (W1.setCell ⟨M, 2, none⟩ v') lo M vN v' NX (OU ++ [x]) nx (ou ++ [l]) ∧ Only W (W1.setCell ⟨M, 2, none⟩ v') (PM M vN vO) ∧ (∀ k, k < W.heap.size → PM M vN v' k → PM M vN vO k) := by
  subst hn
  have hMW := (Array.getElem?_eq_some_iff.1 h.box).1
  have hnM : vO.ownBlock ≠ some M := fun e => by
    obtain ⟨cs, q⟩ := own_typ h.ou.outer e
    rw [h.box] at q
    injection q with q
    injection q with _ q
    exact absurd q (by decide)
  have keep : ∀ k, k < W.heap.size → vO.ownBlock ≠ some k → W1.heap[k]? = W.heap[k]? := fun k hk hne => by
    rw [hg.block k (by simp; omega) (fun e => hne e.symm), Below.heap_alloc W o k hk]
  have hb1 := (keep M hMW hnM).trans h.box
  have hb2 := heap_setCell_same W1 M 2 _ _ v' hb1
  have hs1 : W.heap.size ≤ W1.heap.size := by have := hg.size; simp at this; omega
  have hO1 : Only W W1 (fun k => vO.ownBlock = some k) := ⟨hg.os, hg.tape, hg.output, hs1, keep⟩
  have hO2 : Only W1 (W1.setCell ⟨M, 2, none⟩ v') (fun k => k = M) := Only.setCell W1 M 2 v'
  have hkA : KeB [34] W W1 := KeB.row h.ou.outer (by simp) hO1
  have hkC : KeB [28] W1 (W1.setCell ⟨M, 2, none⟩ v') := KeB.cell hb1 (by simp) v'
  have hap : ∀ k, v'.ownBlock = some k → k < W.heap.size → vO.ownBlock = some k := fun k hk hl => by
    rcases hat with hat | hat
    · rw [← hat]; exact hk
    · rw [hat] at hk
      injection hk with hk
      simp at hk
      omega
  have hgrow : RwsM (W1.setCell ⟨M, 2, none⟩ v') lo v' (OU ++ [x]) (ou ++ [l]) := by
    refine RwsM.inner h.ou ((hkA.mono (T' := [34, 28]) (by simp)).trans (hkC.mono (by simp))) (by decide) ?_ hx
    rw [List.length_append]
    exact hkC.own hown (by decide)
  have hoth : RwsM (W1.setCell ⟨M, 2, none⟩ v') lo vN NX nx := by
    refine RwsM.keB (RwsM.keep h.nx (fun k hk => keep k (World.ownsRow.lt h.nx.outer k hk).2 (fun e => h.apt k hk e)) (fun y hy k hk => ?_)) hkC (by decide) (by decide)
    obtain ⟨l', hl'⟩ := h.nx.mem hy
    exact keep k (World.ownsRow.lt hl' k hk).2 (fun e => Apt.ofTyp h.ou.outer hl' (by decide) k e hk)
  refine ⟨hb1, ⟨hb2, hoth, hgrow, ?_⟩, ?_, fun k hk q => ?_⟩
  · intro k hk e
    exact h.apt k hk (hap k e (World.ownsRow.lt h.nx.outer k hk).2)
  · refine ⟨hg.os, hg.tape, hg.output, ?_, fun k hk hn => ?_⟩
    · have := hO2.size; omega
    · rw [hO2.block k (by omega) (fun e => hn (.inl e)), keep k hk (fun e => hn (.inr (.inr e)))]
  · rcases q with q | q | q
    · exact .inl q
    · exact .inr (.inl q)
    · exact .inr (.inr (hap k q hk))
end Go.Proofs.YtbbejfkgopcjoaaDoor
namespace Go.Proofs.YtbbejfkgopcjoaaDoor
open Go.RowKit Go.Shelf
/-- The row of a state, as the document makes it. -/
def rowR (ps : List Pt) (s : Rst) (all : List Rst) : Nat → List Rst × List Nat
  | 0 => (all, [])
  | c + 1 => if stepR ps s c ∈ (rowR ps s all c).1 then ((rowR ps s all c).1, (rowR ps s all c).2 ++ [(rowR ps s all c).1.idxOf (stepR ps s c)]) else ((rowR ps s all c).1 ++ [stepR ps s c], (rowR ps s all c).2 ++ [(rowR ps s all c).1.length])
structure Rs where
  all : List Rst
  nx : List (List Nat)
  ou : List (List Nat)
  n : Nat
def Rs.full (r : Rs) (sy most : Nat) : Prop := most < r.all.length ∨ 4194304 < r.all.length * sy
instance (r : Rs) (sy most : Nat) : Decidable (r.full sy most) := by unfold Rs.full; infer_instance
/-- One round of the document's loop. -/
def rndR (ps : List Pt) (sy most : Nat) (r : Rs) (a : Rst) : Option Rs :=
  if r.full sy most then none else if 4194304 < r.n + (outR ps a).length then none else some ⟨(rowR ps a r.all sy).1, r.nx ++ [(rowR ps a r.all sy).2], r.ou ++ [outR ps a], r.n + (outR ps a).length⟩
def runR (ps : List Pt) (sy most : Nat) : Nat → Option Rs
  | 0 => some ⟨[startR ps], [], [], 0⟩
  | i + 1 => match runR ps sy most i with
    | none => none
    | some r => match r.all[i]? with
      | none => some r
      | some a => rndR ps sy most r a
def bldR (ps : List Pt) (sy most : Nat) : Option (List (List Nat) × List (List Nat)) :=
  match runR ps sy most (most + 1) with
  | none => none
  | some r => if r.full sy most then none else some (r.nx, r.ou)
theorem rowR_pre (ps : List Pt) (s : Rst) (all : List Rst) : ∀ c d, ∃ e, (rowR ps s all (c + d)).1 = (rowR ps s all c).1 ++ e
  | c, 0 => ⟨[], by simp⟩
  | c, d + 1 => by
    obtain ⟨e, he⟩ := rowR_pre ps s all c d
    rw [← Nat.add_assoc, rowR]
    split
    · exact ⟨e, he⟩
    · exact ⟨e ++ [stepR ps s (c + d)], by rw [← List.append_assoc, ← he]⟩
/-- What is told of states. -/
def totR (ps : List Pt) (all : List Rst) : Nat := (all.map fun a => (outR ps a).length).sum
theorem totR_app (ps : List Pt) (a b : List Rst) : totR ps (a ++ b) = totR ps a + totR ps b := by unfold totR; rw [List.map_append, List.sum_append]
section
variable {ps : List Pt} {sy most : Nat}
/-- What is true of the document's loop. -/
structure RunI (ps : List Pt) (sy most i : Nat) (r : Rs) : Prop where
  cnt : r.nx.length = i ∨ (r.nx.length = r.all.length ∧ r.nx.length ≤ i)
  le : r.nx.length ≤ r.all.length
  ou : r.ou = (r.all.take r.nx.length).map (outR ps)
  n : r.n = totR ps (r.all.take r.nx.length)
  lim : r.n ≤ 4194304
theorem runR_inv : ∀ i r, runR ps sy most i = some r → RunI ps sy most i r
  | 0, r, h => by
    rw [runR] at h
    injection h with h
    subst h
    exact ⟨.inl rfl, Nat.zero_le _, rfl, rfl, Nat.zero_le _⟩
  | i + 1, r, h => by
    rw [runR] at h
    cases hq : runR ps sy most i with
    | none => rw [hq] at h; cases h
    | some r0 =>
      rw [hq] at h
      simp only at h
      have ih := runR_inv i r0 hq
      cases ha : r0.all[i]? with
      | none =>
        rw [ha] at h
        injection h with h
        subst h
        rw [List.getElem?_eq_none_iff] at ha
        refine ⟨?_, ih.le, ih.ou, ih.n, ih.lim⟩
        have := ih.le
        rcases ih.cnt with e | ⟨e, e2⟩
        · exact .inr ⟨by omega, by omega⟩
        · exact .inr ⟨e, by omega⟩
      | some a =>
        rw [ha] at h
        simp only at h
        unfold rndR at h
        split at h
        · cases h
        · split at h
          · cases h
          · rename_i h1 h2
            injection h with h
            subst h
            have hi : i < r0.all.length := (List.getElem?_eq_some_iff.1 ha).1
            have hnx : r0.nx.length = i := by
              rcases ih.cnt with e | ⟨e, e2⟩
              · exact e
              · omega
            obtain ⟨e, he⟩ := rowR_pre ps a r0.all 0 sy
            rw [Nat.zero_add] at he
            have he' : (rowR ps a r0.all sy).1 = r0.all ++ e := he
            have htk : (r0.all ++ e).take (i + 1) = r0.all.take i ++ [a] := by
              rw [List.take_append_of_le_length (by omega), List.take_add_one, ha]
              rfl
            refine ⟨.inl ?_, ?_, ?_, ?_, by show r0.n + (outR ps a).length ≤ 4194304; omega⟩
            · show (r0.nx ++ [_]).length = i + 1
              rw [List.length_append, hnx]; rfl
            · show (r0.nx ++ [_]).length ≤ (rowR ps a r0.all sy).1.length
              rw [he', List.length_append, List.length_append, hnx, List.length_singleton]; omega
            · show r0.ou ++ [outR ps a] = ((rowR ps a r0.all sy).1.take (r0.nx ++ [_]).length).map (outR ps)
              rw [List.length_append, List.length_singleton, hnx, he', htk, List.map_append, ih.ou, hnx]
              rfl
            · show r0.n + (outR ps a).length = totR ps ((rowR ps a r0.all sy).1.take (r0.nx ++ [_]).length)
              rw [List.length_append, List.length_singleton, hnx, he', htk, totR_app, ih.n, hnx]
              simp [totR]
theorem runR_none {i : Nat} (h : runR ps sy most i = none) : ∀ d, runR ps sy most (i + d) = none
  | 0 => h
  | d + 1 => by rw [← Nat.add_assoc, runR, runR_none h d]
theorem runR_pre {i : Nat} {r : Rs} (h : runR ps sy most i = some r) : ∀ d r', runR ps sy most (i + d) = some r' → ∃ e, r'.all = r.all ++ e
  | 0, r', h' => by
    rw [Nat.add_zero, h] at h'
    injection h' with h'
    subst h'
    exact ⟨[], by simp⟩
  | d + 1, r', h' => by
    rw [← Nat.add_assoc, runR] at h'
    cases hq : runR ps sy most (i + d) with
    | none => rw [hq] at h'; cases h'
    | some r0 =>
      rw [hq] at h'
      simp only at h'
      obtain ⟨e, he⟩ := runR_pre h d r0 hq
      cases ha : r0.all[i + d]? with
      | none =>
        rw [ha] at h'
        injection h' with h'
        subst h'
        exact ⟨e, he⟩
      | some a =>
        rw [ha] at h'
        simp only at h'
        unfold rndR at h'
        split at h'
        · cases h'
        · split at h'
          · cases h'
          · injection h' with h'
            subst h'
            obtain ⟨e2, he2⟩ := rowR_pre ps a r0.all 0 sy
            rw [Nat.zero_add] at he2
            have he2' : (rowR ps a r0.all sy).1 = r0.all ++ e2 := he2
            refine ⟨e ++ e2, ?_⟩
            show (rowR ps a r0.all sy).1 = _
            rw [he2', he, List.append_assoc]
theorem runR_done {i : Nat} {r : Rs} (h : runR ps sy most i = some r) (hi : r.all.length ≤ i) : ∀ d, runR ps sy most (i + d) = some r
  | 0 => h
  | d + 1 => by
    rw [← Nat.add_assoc, runR, runR_done h hi d]
    simp only
    rw [List.getElem?_eq_none (by omega)]
theorem full_iff (hsy : 0 < sy) (r : Rs) : r.full sy most ↔ min most (4194304 / sy) < r.all.length := by
  unfold Rs.full
  have e : 4194304 < r.all.length * sy ↔ 4194304 / sy < r.all.length := by
    rw [Nat.div_lt_iff_lt_mul hsy]
  rw [e]
  omega
/-- Too many states, or too much told: it is refused. -/
theorem bldR_none (hsy : 0 < sy) {i : Nat} (hi : i ≤ most + 1) {r : Rs} (h : runR ps sy most i = some r) (hf : min most (4194304 / sy) < r.all.length ∨ 4194304 < totR ps r.all) : bldR ps sy most = none := by
  unfold bldR
  cases hq : runR ps sy most (most + 1) with
  | none => rfl
  | some r' =>
    simp only
    by_cases hfull : r'.full sy most
    · rw [if_pos hfull]
    · exfalso
      rw [full_iff hsy] at hfull
      obtain ⟨e, he⟩ := runR_pre h (most + 1 - i) r' (by rw [show i + (most + 1 - i) = most + 1 by omega]; exact hq)
      have hinv := runR_inv _ _ hq
      have hlen : r'.nx.length = r'.all.length := by
        have := hinv.le
        rcases hinv.cnt with e | ⟨e, _⟩
        · omega
        · exact e
      have h1 := hinv.n
      rw [hlen, List.take_length, he, totR_app] at h1
      have h2 := hinv.lim
      rcases hf with hf | hf
      · rw [he, List.length_append] at hfull; omega
      · omega
end
end Go.Proofs.YtbbejfkgopcjoaaDoor
namespace Go.Proofs.YtbbejfkgopcjoaaDoor
open Go.RowKit Go.Shelf
theorem csF_nodup (f : Nat → List UInt8) : ∀ k, ((csF f k).map f).Nodup
  | 0 => by simp [csF]
  | k + 1 => by
    rw [csF]
    split
    · exact csF_nodup f k
    · rename_i h
      rw [List.map_append, List.nodup_append]
      refine ⟨csF_nodup f k, by simp, fun x hx y hy => ?_⟩
      rw [List.map_cons, List.map_nil, List.mem_singleton] at hy
      rw [hy]
      rintro rfl
      exact h hx
/-- A state of the document's and the text of one of the program's. -/
def RelT (ps : List Pt) (N sy : Nat) (a : Rst) (t : List UInt8) : Prop := ∃ (x : Nat) (g : Nat → Bool), x < (csF (opF (jAcc ps ps.length) N) sy).length ∧ (∀ q, g q = true → q < plN ps ps.length ∧ (jAcc ps ps.length).op q = false) ∧ t = leB x 4 ++ encW g N ∧ a = (stnd ps (fun q => bFs (jAcc ps ps.length) N sy x q || g q), true)
section
variable {ps : List Pt} {sy N : Nat}
theorem bFs_op {x q : Nat} (h : bFs (jAcc ps ps.length) N sy x q = true) : (jAcc ps ps.length).op q = true := by
  unfold bFs andB at h
  rw [Bool.and_eq_true] at h
  exact h.1
theorem relT_same (hp : ∀ p ∈ ps, PtOk sy p) (hN : plN ps ps.length ≤ 64 * N) (hNs : N ≤ 1000000) (hsy : sy ≤ 16384) {a a' : Rst} {t t' : List UInt8} (h : RelT ps N sy a t) (h' : RelT ps N sy a' t') : a = a' ↔ t = t' := by
  obtain ⟨x, g, x1, x2, rfl, rfl⟩ := h
  obtain ⟨x', g', y1, y2, rfl, rfl⟩ := h'
  have hJ := jAcc_ok hp hN ps.length (Nat.le_refl _)
  have hown := jAcc_own hp ps.length (Nat.le_refl _)
  have hcl := csF_len (opF (jAcc ps ps.length) N) sy
  constructor
  · intro e
    have e1 : stnd ps (fun q => bFs (jAcc ps ps.length) N sy x q || g q) = stnd ps (fun q => bFs (jAcc ps ps.length) N sy x' q || g' q) := congrArg Prod.fst e
    rw [stnd_eq] at e1
    have k1 : ∀ q, q < plN ps ps.length → bFs (jAcc ps ps.length) N sy x q = bFs (jAcc ps ps.length) N sy x' q ∧ g q = g' q := fun q hq => by
      have e2 := e1 q hq
      cases ho : (jAcc ps ps.length).op q with
      | true =>
        have g0 : g q = false := bool_no (fun h => by have := (x2 q h).2; rw [ho] at this; cases this)
        have g1 : g' q = false := bool_no (fun h => by have := (y2 q h).2; rw [ho] at this; cases this)
        rw [g0, g1, Bool.or_false, Bool.or_false] at e2
        exact ⟨e2, by rw [g0, g1]⟩
      | false =>
        have b0 : bFs (jAcc ps ps.length) N sy x q = false := bool_no (fun h => by have := bFs_op h; rw [ho] at this; cases this)
        have b1 : bFs (jAcc ps ps.length) N sy x' q = false := bool_no (fun h => by have := bFs_op h; rw [ho] at this; cases this)
        rw [b0, b1, Bool.false_or, Bool.false_or] at e2
        exact ⟨by rw [b0, b1], e2⟩
    have k2 : ∀ q, q < 64 * N → bFs (jAcc ps ps.length) N sy x q = bFs (jAcc ps ps.length) N sy x' q ∧ g q = g' q := fun q hq => by
      by_cases hq2 : q < plN ps ps.length
      · exact k1 q hq2
      · have n : ∀ z, bFs (jAcc ps ps.length) N sy z q = false := fun z => bool_no (fun h => by have := hJ.op' q (bFs_op h); rw [hown] at this; omega)
        exact ⟨by rw [n, n], by
          have g0 : g q = false := bool_no (fun h => by have := (x2 q h).1; omega)
          have g1 : g' q = false := bool_no (fun h => by have := (y2 q h).1; omega)
          rw [g0, g1]⟩
    have k3 : encW g N = encW g' N := encW_same N (fun q hq => (k2 q hq).2)
    have k4 : x = x' := by
      have e4 : encW (bFs (jAcc ps ps.length) N sy x) N = encW (bFs (jAcc ps ps.length) N sy x') N := encW_same N (fun q hq => (k2 q hq).1)
      have nd := csF_nodup (opF (jAcc ps ps.length) N) sy
      have hm : ∀ z (hz : z < (csF (opF (jAcc ps ps.length) N) sy).length), ((csF (opF (jAcc ps ps.length) N) sy).map (opF (jAcc ps ps.length) N))[z]'(by rw [List.length_map]; exact hz) = encW (bFs (jAcc ps ps.length) N sy z) N := fun z hz => by
        rw [List.getElem_map]
        unfold opF bFs
        rw [List.getD_eq_getElem?_getD, List.getElem?_eq_getElem hz]
        rfl
      have e5 : ((csF (opF (jAcc ps ps.length) N) sy).map (opF (jAcc ps ps.length) N))[x]'(by rw [List.length_map]; exact x1) = ((csF (opF (jAcc ps ps.length) N) sy).map (opF (jAcc ps ps.length) N))[x']'(by rw [List.length_map]; exact y1) := by rw [hm x x1, hm x' y1, e4]
      exact (List.getElem_inj nd).1 e5
    rw [k3, k4]
  · intro e
    obtain ⟨e1, e2⟩ := List.append_inj e (by rw [leB_len, leB_len])
    have e3 : x = x' := leB_inj (k := 4) (by omega) (by omega) e1
    subst e3
    have e4 := encW_inj (n := N) (by omega) e2
    have e5 : stnd ps (fun q => bFs (jAcc ps ps.length) N sy x q || g q) = stnd ps (fun q => bFs (jAcc ps ps.length) N sy x q || g' q) := by
      rw [stnd_eq]
      intro q hq
      rw [e4 q (by omega)]
    rw [e5]
/-- What is told, and the states, side by side. -/
structure SimK (ps : List Pt) (N sy : Nat) (k : List (List UInt8)) (n : Nat) (o : List (List Nat)) (all : List Rst) : Prop where
  ex : ∃ al, all = startR ps :: al ∧ al.length = k.length ∧ ∀ i (h1 : i < al.length) (h2 : i < k.length), RelT ps N sy al[i] k[i]
  o : o = all.map (outR ps)
  n : n = totR ps all
theorem idx_same {al : List Rst} {k : List (List UInt8)} {a : Rst} {t : List UInt8} (h : al.length = k.length) (he : ∀ i (h1 : i < al.length) (h2 : i < k.length), al[i] = a ↔ k[i] = t) : (a ∈ al ↔ t ∈ k) ∧ al.idxOf a = k.idxOf t := by
  induction al generalizing k with
  | nil =>
    cases k with
    | nil => simp
    | cons _ _ => simp at h
  | cons b al ih =>
    cases k with
    | nil => simp at h
    | cons u k =>
      obtain ⟨i1, i2⟩ := ih (k := k) (by simpa using h) (fun i h1 h2 => he (i + 1) (Nat.succ_lt_succ h1) (Nat.succ_lt_succ h2))
      have h0 : b = a ↔ u = t := he 0 (Nat.succ_pos _) (Nat.succ_pos _)
      refine ⟨?_, ?_⟩
      · rw [List.mem_cons, List.mem_cons, i1]
        constructor
        · rintro (h | h)
          · exact .inl (h0.1 h.symm).symm
          · exact .inr h
        · rintro (h | h)
          · exact .inl (h0.2 h.symm).symm
          · exact .inr h
      · rw [List.idxOf_cons, List.idxOf_cons, i2]
        by_cases hb : b = a
        · have hu := h0.1 hb
          subst hb hu
          rw [beq_self_eq_true, beq_self_eq_true]
        · have hu : ¬ u = t := fun e => hb (h0.2 e)
          rw [beq_false_of_ne hb, beq_false_of_ne hu]
theorem SimK.mem (hp : ∀ p ∈ ps, PtOk sy p) (hN : plN ps ps.length ≤ 64 * N) (hNs : N ≤ 1000000) (hsy : sy ≤ 16384) {k : List (List UInt8)} {n : Nat} {o : List (List Nat)} {all : List Rst} (h : SimK ps N sy k n o all) {a : Rst} {t : List UInt8} (hr : RelT ps N sy a t) : (a ∈ all ↔ t ∈ k) ∧ all.idxOf a = k.idxOf t + 1 ∧ all.length = k.length + 1 := by
  obtain ⟨al, rfl, h1, h2⟩ := h.ex
  have hne : ¬ startR ps = a := by
    obtain ⟨x, g, _, _, _, rfl⟩ := hr
    intro e
    have := congrArg Prod.snd e
    cases this
  obtain ⟨i1, i2⟩ := idx_same (a := a) (t := t) h1 (fun i g1 g2 => relT_same hp hN hNs hsy (h2 i g1 g2) hr)
  refine ⟨?_, ?_, by rw [List.length_cons, h1]⟩
  · rw [List.mem_cons, i1]
    exact ⟨fun h => h.resolve_left (fun e => hne e.symm), .inr⟩
  · rw [List.idxOf_cons, i2, beq_false_of_ne hne]
    rfl
/-- A row. -/
theorem row_sim (hp : ∀ p ∈ ps, PtOk sy p) (hN : plN ps ps.length ≤ 64 * N) (hNs : N ≤ 1000000) (hsy : sy ≤ 16384) {a : Rst} {T : Nat → List UInt8} {O : Nat → List Nat} {most : Nat} {ks : List (List UInt8)} {n0 : Nat} {ou : List (List Nat)} {all : List Rst} (hT : ∀ c, c < sy → RelT ps N sy (stepR ps a c) (T c) ∧ O c = outR ps (stepR ps a c)) (h : SimK ps N sy ks n0 ou all) :
    ∀ c, c ≤ sy → ∀ k n o l, nsF T O most ks n0 ou c = some (k, n, o, l) → SimK ps N sy k n o (rowR ps a all c).1 ∧ (rowR ps a all c).2 = l := by
  intro c
  induction c with
  | zero =>
    intro _ k n o l hq
    rw [nsF] at hq
    simp only [Option.some.injEq, Prod.mk.injEq] at hq
    obtain ⟨rfl, rfl, rfl, rfl⟩ := hq
    exact ⟨h, rfl⟩
  | succ c ih =>
    intro hc k n o l hq
    cases hq0 : nsF T O most ks n0 ou c with
    | none => rw [nsF, hq0] at hq; cases hq
    | some q =>
      obtain ⟨k1, n1, o1, l1⟩ := q
      obtain ⟨s1, s2⟩ := ih (by omega) k1 n1 o1 l1 hq0
      obtain ⟨r1, r2⟩ := hT c hc
      obtain ⟨m1, m2, m3⟩ := s1.mem hp hN hNs hsy r1
      by_cases hm : T c ∈ k1
      · rw [nsF_old hq0 hm] at hq
        simp only [Option.some.injEq, Prod.mk.injEq] at hq
        obtain ⟨rfl, rfl, rfl, rfl⟩ := hq
        rw [rowR, if_pos (m1.2 hm), m2, s2]
        exact ⟨s1, rfl⟩
      · by_cases hf : k1.length + 1 = most ∨ 4194304 < n1 + (O c).length
        · rw [nsF_full hq0 hm hf] at hq; cases hq
        · rw [nsF_new hq0 hm hf] at hq
          simp only [Option.some.injEq, Prod.mk.injEq] at hq
          obtain ⟨rfl, rfl, rfl, rfl⟩ := hq
          rw [rowR, if_neg (fun e => hm (m1.1 e)), m3, s2]
          refine ⟨⟨?_, ?_, ?_⟩, rfl⟩
          · obtain ⟨al, h1, h2, h3⟩ := s1.ex
            refine ⟨al ++ [stepR ps a c], by rw [h1]; rfl, by rw [List.length_append, List.length_append, h2]; rfl, fun i g1 g2 => ?_⟩
            by_cases hi : i < al.length
            · rw [List.getElem_append_left hi, List.getElem_append_left (by omega)]
              exact h3 i hi (by omega)
            · rw [List.length_append, List.length_singleton] at g1
              obtain rfl : i = al.length := by omega
              rw [List.getElem_append_right (by omega), List.getElem_append_right (by omega)]
              simp only [Nat.sub_self, h2, List.getElem_cons_zero]
              exact r1
          · show o1 ++ [O c] = ((rowR ps a all c).1 ++ [stepR ps a c]).map (outR ps)
            rw [List.map_append, ← s1.o, r2]
            rfl
          · rw [totR_app, ← s1.n, r2]
            simp [totR]
/-- Where the program refuses, the document goes over a limit. -/
theorem row_none (hp : ∀ p ∈ ps, PtOk sy p) (hN : plN ps ps.length ≤ 64 * N) (hNs : N ≤ 1000000) (hsy : sy ≤ 16384) {a : Rst} {T : Nat → List UInt8} {O : Nat → List Nat} {most : Nat} {ks : List (List UInt8)} {n0 : Nat} {ou : List (List Nat)} {all : List Rst} (hT : ∀ c, c < sy → RelT ps N sy (stepR ps a c) (T c) ∧ O c = outR ps (stepR ps a c)) (h : SimK ps N sy ks n0 ou all) (hq : nsF T O most ks n0 ou sy = none) :
    most < (rowR ps a all sy).1.length ∨ 4194304 < totR ps (rowR ps a all sy).1 := by
  have key : ∀ c, c ≤ sy → nsF T O most ks n0 ou c = none → ∃ c', c' < c ∧ (∃ q, nsF T O most ks n0 ou c' = some q) ∧ nsF T O most ks n0 ou (c' + 1) = none := by
    intro c
    induction c with
    | zero => intro _ h; rw [nsF] at h; cases h
    | succ c ih =>
      intro hc hn
      cases hq0 : nsF T O most ks n0 ou c with
      | none =>
        obtain ⟨c', h1, h2, h3⟩ := ih (by omega) hq0
        exact ⟨c', by omega, h2, h3⟩
      | some q => exact ⟨c, by omega, ⟨q, hq0⟩, hn⟩
  obtain ⟨c, hc, ⟨⟨k, n, o, l⟩, h1⟩, h2⟩ := key sy (Nat.le_refl _) hq
  obtain ⟨s1, _⟩ := row_sim hp hN hNs hsy hT h c (by omega) k n o l h1
  obtain ⟨r1, r2⟩ := hT c hc
  obtain ⟨m1, _, m3⟩ := s1.mem hp hN hNs hsy r1
  have hm : T c ∉ k := fun hm => by rw [nsF_old h1 hm] at h2; cases h2
  have hf : k.length + 1 = most ∨ 4194304 < n + (O c).length := by
    by_cases hf : k.length + 1 = most ∨ 4194304 < n + (O c).length
    · exact hf
    · rw [nsF_new h1 hm hf] at h2; cases h2
  have hrow : (rowR ps a all (c + 1)).1 = (rowR ps a all c).1 ++ [stepR ps a c] := by rw [rowR, if_neg (fun e => hm (m1.1 e))]
  obtain ⟨e, he⟩ := rowR_pre ps a all (c + 1) (sy - (c + 1))
  rw [show c + 1 + (sy - (c + 1)) = sy by omega, hrow] at he
  rw [he]
  rcases hf with hf | hf
  · left
    rw [List.length_append, List.length_append, List.length_singleton, m3]
    omega
  · right
    rw [totR_app, totR_app, ← s1.n]
    have : totR ps [stepR ps a c] = (O c).length := by rw [r2]; simp [totR]
    omega
end
end Go.Proofs.YtbbejfkgopcjoaaDoor
