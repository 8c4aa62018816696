/-
  BrM, BrSW, BrHW, BrPW, BqBW, BqCW, BrEW, BrTW.
-/
import Derived.Test.YtlfeiadgahdgoaaGreatDoorMqc
import Derived.Test.YtlfeiadgahdgoaaGreatDoorMqd
import Derived.StillTailTactics
import Derived.Deep.RegionHeld3
import Derived.Maps.AppendAt
import Derived.Laws.EntriesVeiled
namespace Go.Proofs.YtlfeiadgahdgoaaGreatDoor
open Go.RowKit Go.Shelf Go.Lib
/-- A section, and the slice of its edits. -/
structure SecO where
  s : Sec
  ev : Value
def cellsO (S : List SecO) : List Value := S.flatMap fun x => [.string x.s.loc, .string x.s.par, x.ev]
theorem cellsO_cons (u : SecO) (l : List SecO) : cellsO (u :: l) = .string u.s.loc :: .string u.s.par :: u.ev :: cellsO l := rfl
theorem cellsO_length (S : List SecO) : (cellsO S).length = S.length * 3 := by
  induction S with
  | nil => rfl
  | cons u l ih => rw [cellsO_cons]; simp [ih]; omega
theorem cellsO_append (l m : List SecO) : cellsO (l ++ m) = cellsO l ++ cellsO m := by simp [cellsO]
theorem cellsO_at (S : List SecO) : ∀ (k : Nat) (h : k < S.length), (cellsO S)[k * 3]? = some (.string S[k].s.loc) ∧ (cellsO S)[k * 3 + 1]? = some (.string S[k].s.par) ∧ (cellsO S)[k * 3 + 2]? = some S[k].ev := by
  induction S with
  | nil => intro k h; simp at h
  | cons u l ih =>
    intro k h
    cases k with
    | zero => rw [cellsO_cons]; simp
    | succ k =>
      have := ih k (by simpa using h)
      rw [cellsO_cons, show (k + 1) * 3 = k * 3 + 1 + 1 + 1 by omega, show k * 3 + 1 + 1 + 1 + 1 = (k * 3 + 1) + 1 + 1 + 1 by omega, show k * 3 + 1 + 1 + 1 + 2 = (k * 3 + 2) + 1 + 1 + 1 by omega]
      simpa using this
theorem cellsO_set (P : List SecO) (x : SecO) (j : Nat) (u : Value) : (cellsO (P ++ [x])).set (P.length * 3 + j) u = cellsO P ++ ([.string x.s.loc, .string x.s.par, x.ev].set j u) := by
  rw [cellsO_append, List.set_append_right _ _ (by rw [cellsO_length]; omega), cellsO_length, Nat.add_sub_cancel_left]
  rfl
def secsO (S : List SecO) : List Sec := S.map (·.s)
theorem secsO_snoc (P : List SecO) (x : SecO) : secsO (P ++ [x]) = secsO P ++ [x.s] := by simp [secsO]
theorem secsO_length (S : List SecO) : (secsO S).length = S.length := by simp [secsO]
theorem nEd_snoc (L : List Sec) (s : Sec) : nEd (L ++ [s]) = nEd L + s.ed.length := by
  unfold nEd
  rw [List.map_append, List.sum_append]
  simp
/-- A reading: its line, its sections, the count of its edits. -/
structure RB (w : World) (lo R : Nat) (v : Value) (S : List SecO) (ln : Nat) : Prop where
  lt : R < lo
  row : w.heap[R]? = some (.cells #[.int .i64 (ln : Int), v, .int .i64 ((nEd (secsO S) : Nat) : Int)] 57 (0, 0))
  sec : w.ownsRow lo 38 3 v S.length (cellsO S)
  ed : ∀ x ∈ S, OwnE w lo x.ev x.s.ed.length x.s.ed
  ne : ∀ x ∈ S, ∀ g, x.ev.ownBlock = some g → v.ownBlock ≠ some g
  pw : S.Pairwise fun x y => ∀ g, x.ev.ownBlock = some g → y.ev.ownBlock ≠ some g
theorem RB.size {w : World} {lo R ln : Nat} {v : Value} {S : List SecO} (h : RB w lo R v S ln) : R < w.heap.size := (Array.getElem?_eq_some_iff.1 h.row).1
theorem RB.keep {w w' : World} {lo R ln : Nat} {v : Value} {S : List SecO} (h : RB w lo R v S ln) (hb : ∀ k, R ≤ k → k < w.heap.size → w'.heap[k]? = w.heap[k]?) : RB w' lo R v S ln where
  lt := h.lt
  row := (hb R (Nat.le_refl _) h.size).trans h.row
  sec := own_blk h.sec (fun k hk => hb k (by have := (World.ownsRow.lt h.sec k hk).1; have := h.lt; omega) (World.ownsRow.lt h.sec k hk).2)
  ed := fun x hx => own_blk (h.ed x hx) (fun k hk => hb k (by have := (World.ownsRow.lt (h.ed x hx) k hk).1; have := h.lt; omega) (World.ownsRow.lt (h.ed x hx) k hk).2)
  ne := h.ne
  pw := h.pw
theorem RB.later {w w' : World} {lo R ln : Nat} {v : Value} {S : List SecO} (h : RB w lo R v S ln) (hb : Below w.heap.size w w') : RB w' lo R v S ln := h.keep (fun k _ hk => hb.block k hk)
theorem RB.cells {w : World} {lo R ln : Nat} {v : Value} {S : List SecO} (h : RB w lo R v S ln) : w.cell? ⟨R, 0, none⟩ = some (.int .i64 (ln : Int)) ∧ w.cell? ⟨R, 1, none⟩ = some v ∧ w.cell? ⟨R, 2, none⟩ = some (.int .i64 ((nEd (secsO S) : Nat) : Int)) ∧ (∀ j, w.frozen? ⟨R, j, none⟩ = false) :=
  ⟨by rw [cell_of_row _ _ _ _ _ _ h.row]; rfl, by rw [cell_of_row _ _ _ _ _ _ h.row]; rfl, by rw [cell_of_row _ _ _ _ _ _ h.row]; rfl, fun j => frozen_of_row _ _ _ _ _ h.row⟩
theorem RB.form {w : World} {lo R ln : Nat} {v : Value} {S : List SecO} (h : RB w lo R v S ln) : ∃ a c, v = .slice a S.length c ∧ S.length ≤ c := by
  rcases h.sec.2 with ⟨h1, h2⟩ | ⟨g, cap, cur, h1, _, _, h4, _⟩
  · exact ⟨none, 0, by rw [h1, h2], by omega⟩
  · exact ⟨_, cap, h1, h4⟩
theorem OwnE.ea {w : World} {lo : Nat} {v : Value} {l : List (Bool × ByteArray)} (h : OwnE w lo v l.length l) : ∃ ae ce, v = .slice ae l.length ce ∧ EA w ae l := by
  have h0 := h
  rcases h.2 with ⟨rfl, hn⟩ | ⟨g, cap, cur, rfl, hg, hh, _⟩
  · have : l = [] := List.length_eq_zero_iff.1 hn
    subst this
    exact ⟨none, 0, rfl, ⟨fun k hk => absurd hk (Nat.not_lt_zero _)⟩⟩
  · refine ⟨_, cap, rfl, ⟨fun k hk => ?_⟩⟩
    have c := cellsE_at l k hk
    refine ⟨g, 0, rfl, (Array.getElem?_eq_some_iff.1 hh).1, ?_, ?_⟩
    · rw [Nat.zero_add, World.ownsRow.cellAt h0 _ (by omega)]; exact c.1
    · rw [Nat.zero_add, World.ownsRow.cellAt h0 _ (by omega)]; exact c.2
theorem RB.xa {w : World} {lo R ln : Nat} {a : Option Addr} {n c : Nat} {S : List SecO} (h : RB w lo R (.slice a n c) S ln) : XA w a (secsO S) := ⟨fun k hk => by
  have hk2 : k < S.length := by rw [secsO_length] at hk; exact hk
  have h0 := h.sec
  have e : (secsO S)[k] = S[k].s := by simp [secsO]
  obtain ⟨ae, ce, e1, h1⟩ := (h.ed S[k] (List.getElem_mem hk2)).ea
  rcases h.sec.2 with ⟨h2, h3⟩ | ⟨g, cap, cur, h2, hg, hh, _⟩
  · omega
  · injection h2 with e2 e3 e4
    subst e2 e3 e4
    obtain ⟨c0, c1, c2⟩ := cellsO_at S k hk2
    rw [e]
    refine ⟨g, 0, ae, ce, rfl, (Array.getElem?_eq_some_iff.1 hh).1, ?_, ?_, ?_, h1⟩
    · rw [Nat.zero_add, World.ownsRow.cellAt h0 _ (by omega)]; exact c0
    · rw [Nat.zero_add, World.ownsRow.cellAt h0 _ (by omega)]; exact c1
    · rw [Nat.zero_add, World.ownsRow.cellAt h0 _ (by omega), c2, e1]⟩
/-- The line's number is written. -/
theorem RB.line {w : World} {lo R ln : Nat} {v : Value} {S : List SecO} (h : RB w lo R v S ln) (m : Nat) : RB (w.setCell ⟨R, 0, none⟩ (.int .i64 (m : Int))) lo R v S m where
  lt := h.lt
  row := heap_setCell_same w R 0 _ _ _ h.row
  sec := own_blk h.sec (fun k hk => Below.heap_setCell w _ _ k (by have := (World.ownsRow.lt h.sec k hk).1; have := h.lt; simp only; omega))
  ed := fun x hx => own_blk (h.ed x hx) (fun k hk => Below.heap_setCell w _ _ k (by have := (World.ownsRow.lt (h.ed x hx) k hk).1; have := h.lt; simp only; omega))
  ne := h.ne
  pw := h.pw
/-- A section more. -/
theorem RB.head {w W w1 : World} {lo R ln : Nat} {v v' : Value} {S : List SecO} {c : ByteArray} (h : RB w lo R v S ln) (hW : ∀ k, R ≤ k → k < w.heap.size → W.heap[k]? = w.heap[k]?) (hsz : w.heap.size ≤ W.heap.size) (hg : W.grownBy w1 v.ownBlock)
    (hown : w1.ownsRow lo 38 3 v' (S.length + 1) (cellsO S ++ [.string c, .string ⟨#[]⟩, .slice none 0 0])) (hat : v'.ownBlock = v.ownBlock ∨ v'.ownBlock = some W.heap.size) :
    RB (w1.setCell ⟨R, 1, none⟩ v') lo R v' (S ++ [⟨⟨c, ⟨#[]⟩, []⟩, .slice none 0 0⟩]) ln := by
  have hR := h.size
  have hlt := h.lt
  have b1 : ∀ k, R ≤ k → k < w.heap.size → v.ownBlock ≠ some k → w1.heap[k]? = w.heap[k]? := fun k h1 h2 h3 => (hg.block k (by omega) (fun e => h3 e.symm)).trans (hW k h1 h2)
  have hvR : v.ownBlock ≠ some R := fun e => by have := (World.ownsRow.lt h.sec R e).1; omega
  have row1 := (b1 R (Nat.le_refl _) hR hvR).trans h.row
  have hnew : ∀ x ∈ S, ∀ g, x.ev.ownBlock = some g → v'.ownBlock ≠ some g := fun x hx g hgx e => by
    rcases hat with e2 | e2
    · rw [e2] at e; exact h.ne x hx g hgx e
    · rw [e2] at e
      have := (World.ownsRow.lt (h.ed x hx) g hgx).2
      injection e with e
      omega
  refine ⟨h.lt, ?_, ?_, fun x hx => ?_, fun x hx => ?_, ?_⟩
  · have := heap_setCell_same w1 R 1 _ _ v' row1
    rw [secsO_snoc, nEd_snoc]
    exact this
  · rw [List.length_append, List.length_singleton, cellsO_append]
    exact own_blk hown (fun k hk => Below.heap_setCell w1 _ _ k (by have := (World.ownsRow.lt hown k hk).1; simp only; omega))
  · rcases List.mem_append.1 hx with hx | hx
    · refine own_blk (h.ed x hx) (fun k hk => ?_)
      have hk2 := World.ownsRow.lt (h.ed x hx) k hk
      exact (Below.heap_setCell w1 _ _ k (by simp only; omega)).trans (b1 k (by omega) hk2.2 (h.ne x hx k hk))
    · rw [List.mem_singleton] at hx
      subst hx
      exact World.ownsRow_nil _ _ _ _
  · rcases List.mem_append.1 hx with hx | hx
    · exact hnew x hx
    · rw [List.mem_singleton] at hx
      subst hx
      intro g hgx
      cases hgx
  · refine List.pairwise_append.2 ⟨h.pw, List.pairwise_singleton _ _, fun y hy z hz => ?_⟩
    rw [List.mem_singleton] at hz
    subst hz
    intro g hgx e
    cases e
/-- The last section's parent is written. -/
theorem RB.par {w : World} {lo R ln g n cap : Nat} {P : List SecO} {x : SecO} (h : RB w lo R (.slice (some ⟨g, 0, none⟩) n cap) (P ++ [x]) ln) (c : ByteArray) : RB (w.setCell ⟨g, P.length * 3 + 1, none⟩ (.string c)) lo R (.slice (some ⟨g, 0, none⟩) n cap) (P ++ [⟨⟨x.s.loc, c, x.s.ed⟩, x.ev⟩]) ln := by
  have hlt := h.lt
  have hg := World.ownsRow.lt h.sec g rfl
  have hn : (P ++ [x]).length = n := by
    rcases h.sec.2 with ⟨h1, _⟩ | ⟨_, _, _, h1, _⟩
    · cases h1
    · injection h1 with _ e; exact e.symm
  have hmem : ∀ y ∈ P ++ [(⟨⟨x.s.loc, c, x.s.ed⟩, x.ev⟩ : SecO)], ∃ z ∈ P ++ [x], z.ev = y.ev ∧ z.s.ed = y.s.ed := fun y hy => by
    rcases List.mem_append.1 hy with hy | hy
    · exact ⟨y, List.mem_append.2 (.inl hy), rfl, rfl⟩
    · rw [List.mem_singleton] at hy
      subst hy
      exact ⟨x, by simp, rfl, rfl⟩
  refine ⟨h.lt, ?_, ?_, fun y hy => ?_, fun y hy => ?_, ?_⟩
  · rw [secsO_snoc, nEd_snoc]
    have := h.row
    rw [secsO_snoc, nEd_snoc] at this
    exact (Below.heap_setCell w _ _ R (by simp only; omega)).trans this
  · have h0 := h.sec
    rw [hn] at h0
    have h1 := (World.ownsRow.stored h0 (P.length * 3 + 1) (.string c)).1
    rw [cellsO_set] at h1
    rw [List.length_append, List.length_singleton, ← show (P ++ [x]).length = P.length + 1 by simp, hn, cellsO_append]
    exact h1
  · obtain ⟨z, hz, e1, e2⟩ := hmem y hy
    rw [← e1, ← e2]
    exact own_blk (h.ed z hz) (fun k hk => Below.heap_setCell w _ _ k (fun e => h.ne z hz k hk (by simp only at e; rw [e]; rfl)))
  · obtain ⟨z, hz, e1, _⟩ := hmem y hy
    rw [← e1]
    exact h.ne z hz
  · have hp := List.pairwise_append.1 h.pw
    refine List.pairwise_append.2 ⟨hp.1, List.pairwise_singleton _ _, fun y hy z hz => ?_⟩
    rw [List.mem_singleton] at hz
    subst hz
    exact hp.2.2 y hy x (by simp)
/-- An edit more. -/
theorem RB.edit {w W w1 : World} {lo R ln g n cap : Nat} {P : List SecO} {x : SecO} {ev' : Value} {ad : Bool} {e : ByteArray} (h : RB w lo R (.slice (some ⟨g, 0, none⟩) n cap) (P ++ [x]) ln) (hW : ∀ k, R ≤ k → k < w.heap.size → W.heap[k]? = w.heap[k]?) (hsz : w.heap.size ≤ W.heap.size) (hg : W.grownBy w1 x.ev.ownBlock)
    (hown : w1.ownsRow lo 40 2 ev' (x.s.ed.length + 1) (cellsE x.s.ed ++ [.bool ad, .string e])) (hat : ev'.ownBlock = x.ev.ownBlock ∨ ev'.ownBlock = some W.heap.size) (m : Int) (hm : m = ((nEd (secsO (P ++ [x])) : Nat) : Int) + 1) :
    RB ((w1.setCell ⟨g, P.length * 3 + 2, none⟩ ev').setCell ⟨R, 2, none⟩ (.int .i64 m)) lo R (.slice (some ⟨g, 0, none⟩) n cap) (P ++ [⟨⟨x.s.loc, x.s.par, x.s.ed ++ [(ad, e)]⟩, ev'⟩]) ln := by
  have hlt := h.lt
  have hR := h.size
  have hgl := World.ownsRow.lt h.sec g rfl
  have hx : x ∈ P ++ [x] := by simp
  have hn : (P ++ [x]).length = n := by
    rcases h.sec.2 with ⟨h1, _⟩ | ⟨_, _, _, h1, _⟩
    · cases h1
    · injection h1 with _ e; exact e.symm
  have b1 : ∀ k, R ≤ k → k < w.heap.size → x.ev.ownBlock ≠ some k → w1.heap[k]? = w.heap[k]? := fun k h1 h2 h3 => (hg.block k (by omega) (fun e => h3 e.symm)).trans (hW k h1 h2)
  have hxg : x.ev.ownBlock ≠ some g := fun e => h.ne x hx g e rfl
  have hxR : x.ev.ownBlock ≠ some R := fun e => by have := (World.ownsRow.lt (h.ed x hx) R e).1; omega
  have hgR : ¬ g = R := by omega
  have hev : ev'.ownBlock ≠ some g := fun e2 => by
    rcases hat with e3 | e3
    · rw [e3] at e2; exact hxg e2
    · rw [e3] at e2; injection e2 with e2; omega
  have hevR : ∀ k, ev'.ownBlock = some k → lo ≤ k := fun k hk => (World.ownsRow.lt hown k hk).1
  have setd : ∀ k, ¬ k = g → ¬ k = R → ((w1.setCell ⟨g, P.length * 3 + 2, none⟩ ev').setCell ⟨R, 2, none⟩ (.int .i64 m)).heap[k]? = w1.heap[k]? := fun k h1 h2 => (Below.heap_setCell _ _ _ k h2).trans (Below.heap_setCell w1 _ _ k h1)
  have hold : ∀ y ∈ P, OwnE ((w1.setCell ⟨g, P.length * 3 + 2, none⟩ ev').setCell ⟨R, 2, none⟩ (.int .i64 m)) lo y.ev y.s.ed.length y.s.ed := fun y hy => by
    have hy2 : y ∈ P ++ [x] := List.mem_append.2 (.inl hy)
    refine own_blk (h.ed y hy2) (fun k hk => ?_)
    have hk2 := World.ownsRow.lt (h.ed y hy2) k hk
    have hk3 : ¬ k = g := fun e => h.ne y hy2 k hk (by rw [e]; rfl)
    exact (setd k hk3 (by omega)).trans (b1 k (by omega) hk2.2 ((List.pairwise_append.1 h.pw).2.2 y hy x (by simp) k hk))
  refine ⟨h.lt, ?_, ?_, fun y hy => ?_, fun y hy => ?_, ?_⟩
  · have r1 := (b1 R (Nat.le_refl _) hR hxR).trans h.row
    have r2 : (w1.setCell ⟨g, P.length * 3 + 2, none⟩ ev').heap[R]? = _ := (Below.heap_setCell w1 _ _ R (by simp only; omega)).trans r1
    have := heap_setCell_same _ R 2 _ _ (.int .i64 m) r2
    rw [hm, secsO_snoc, nEd_snoc] at this
    rw [hm, secsO_snoc, nEd_snoc, secsO_snoc, nEd_snoc]
    rw [show (((nEd (secsO P) + (x.s.ed ++ [(ad, e)]).length : Nat)) : Int) = ((nEd (secsO P) + x.s.ed.length : Nat) : Int) + 1 by simp; omega]
    exact this
  · have h0 : w1.ownsRow lo 38 3 (.slice (some ⟨g, 0, none⟩) n cap) n (cellsO (P ++ [x])) := by
      have h1 := h.sec
      rw [hn] at h1
      exact own_blk h1 (fun k hk => by cases hk; exact b1 g (by omega) hgl.2 hxg)
    have h1 := (World.ownsRow.stored h0 (P.length * 3 + 2) ev').1
    rw [cellsO_set] at h1
    rw [List.length_append, List.length_singleton, ← show (P ++ [x]).length = P.length + 1 by simp, hn, cellsO_append]
    exact own_blk h1 (fun k hk => by cases hk; exact Below.heap_setCell _ _ _ g (by simp only; omega))
  · rcases List.mem_append.1 hy with hy | hy
    · exact hold y hy
    · rw [List.mem_singleton] at hy
      subst hy
      unfold OwnE
      rw [cellsE_append, List.length_append, List.length_singleton]
      exact own_blk hown (fun k hk => setd k (fun e => hev (by rw [← e]; exact hk)) (by have := hevR k hk; omega))
  · rcases List.mem_append.1 hy with hy | hy
    · exact h.ne y (List.mem_append.2 (.inl hy))
    · rw [List.mem_singleton] at hy
      subst hy
      intro q hq e2
      cases e2
      exact hev hq
  · have hp := List.pairwise_append.1 h.pw
    refine List.pairwise_append.2 ⟨hp.1, List.pairwise_singleton _ _, fun y hy z hz => ?_⟩
    rw [List.mem_singleton] at hz
    subst hz
    intro q hq e2
    rcases hat with e3 | e3
    · rw [e3] at e2; exact hp.2.2 y hy x (by simp) q hq e2
    · rw [e3] at e2
      injection e2 with e2
      have := (World.ownsRow.lt (h.ed y (List.mem_append.2 (.inl hy))) q hq).2
      omega
end Go.Proofs.YtlfeiadgahdgoaaGreatDoor
namespace Go.Proofs.YtlfeiadgahdgoaaGreatDoor
open Go.RowKit Go.Shelf Go.Lib
set_option maxRecDepth 10000 in
set_option maxHeartbeats 800000 in
theorem section_ok (w : World) (R g n cap : Nat) (ev : Value) (hc : w.cell? ⟨R, 1, none⟩ = some (.slice (some ⟨g, 0, none⟩) (n + 1) cap)) (hn : n ≤ 500) (he : w.cell? ⟨1, 0, none⟩ = some ev) :
    Calls Tryz.prog 90 #[.pointer (some ⟨R, 0, none⟩)] w fun e w' => e = .returned (.pointer (some ⟨g, n * 3, none⟩)) ∧ ∃ q, w' = w.drewN q := by
  have h0 : (0 : Int) < ((n + 1 : Nat) : Int) := by omega
  have hd : decide ((0 : Int) < ((n + 1 : Nat) : Int)) = true := decide_eq_true h0
  go_enter Tryz.func90, Tryz.ntmps90
  go_wp2
  go_quiet ((go_at_call 87; exact Calls.quiet_of_same (need_tb _ _ _ (by first | rfl | exact decide_eq_true (by omega)))))
  go_wp2
  go_quiet ((fail))
  go_wp2
  go_ret
  exact ⟨rfl, _, World.drewN_drewN _ _ _⟩
set_option maxRecDepth 10000 in
set_option maxHeartbeats 800000 in
theorem section_bad (A : Nat → Addr) (w : World) (R c : Nat) (a : Option Addr) (hc : w.cell? ⟨R, 1, none⟩ = some (.slice a 0 c)) (he : w.cell? ⟨1, 0, none⟩ = some (.iface 216 (.pointer (some (A 1))))) :
    Calls Tryz.prog 90 #[.pointer (some ⟨R, 0, none⟩)] w fun e w' => Gives A 1 e ∧ ∃ q, w' = w.drewN q := by
  unfold Gives
  go_enter Tryz.func90, Tryz.ntmps90
  go_wp2
  refine wp_region_still_tail 7 (by kernel_rfl) (by kernel_rfl) ?_
  simp only [List.take_succ_cons, List.take_zero, List.drop_succ_cons, List.drop_zero]
  repeat still_step
  refine wpStill_nil ?_
  go_wp2_with (go_at_call 87; refine (need_f _ _ _).mono ?_; rintro e w4 ⟨rfl, hw4⟩; subst hw4)
  exact ⟨rfl, rfl, 1, rfl⟩
end Go.Proofs.YtlfeiadgahdgoaaGreatDoor
namespace Go.Proofs.YtlfeiadgahdgoaaGreatDoor
open Go.RowKit Go.Shelf Go.Lib
section
variable {P : Program} {ops : Array Oper} {Q : Exit → Act → World → Prop} {md : Region.Mode} {S : World → Prop}
/-- An operation that yields a value is taken first. -/
theorem tkV {i : Nat} {oi : Oper} {d : Option Tmp} {v : Value} {fuel : Nat} {listed : Array Bool} {a : Act} {w : World} (hi : ops[i]? = some oi)
    (hs : Region.noSelect ops = true) (hf : Region.free md ops listed i = true) (hr : (Region.ready md ops listed).contains i = true) (hd : oi.dst = d)
    (hQ : ∀ c a w, Q (.panic c) (a.put d v) w → Q (.panic c) a w) (hw : Region.wanted oi (yielded ops a.tmps) = true) (hv : ∀ w, S w → (execOp a.eval oi).run P w = .ok (.value v) w) (hS : S w)
    (h : wpAnyH P md ops Q S fuel (listed.setIfInBounds i true) (a.put d v) w) : wpAnyH P md ops Q S (fuel + 1) listed a w := by
  subst hd
  exact wpAnyH_take hi hs hf hr hQ (.inl ⟨hw, hv⟩) hS h
end
/-- What a line's reader leaves, or gives up with. -/
def TkA (A : Nat → Addr) (lo R ln : Nat) (w' : World) (o : Stp) (e : Ending) : Prop := match o with
  | .stop i => Gives A i e ∧ ∃ v n, w'.heap[R]? = some (.cells #[.int .i64 (ln : Int), v, n] 57 (0, 0))
  | .go S => e = .returned (.tuple #[]) ∧ ∃ v T, secsO T = S ∧ RB w' lo R v T ln
theorem csuf_any (s : ByteArray) (hs : s.size ≤ 4194400) (w : World) : Calls Tryz.prog 86 #[.string s, .string ⟨#[93]⟩] w fun e w' => e = .returned (.tuple #[.string (strOf (Lib.trimSuffix s.data.toList [93])), .bool (Lib.hasSuffix s.data.toList [93])]) ∧ w' = w :=
  Any.strings_CutSuffix Tryz.lays104 s ⟨#[93]⟩ w (by omega)
theorem trimSuffix_le (s p : List UInt8) : (Lib.trimSuffix s p).length ≤ s.length := by
  unfold Lib.trimSuffix
  split
  · simp
  · exact Nat.le_refl _
theorem dropWhile_le (p : UInt8 → Bool) (l : List UInt8) : (l.dropWhile p).length ≤ l.length := (List.dropWhile_sublist p).length_le
theorem trimS_le (s p : List UInt8) : (Lib.trimS s p).length ≤ s.length := by
  unfold Lib.trimS Lib.trimLeftS Lib.trimRightS
  have h1 := dropWhile_le (p.contains ·) (s.reverse.dropWhile (p.contains ·)).reverse
  have h2 := dropWhile_le (p.contains ·) s.reverse
  simp only [List.length_reverse] at h1 h2
  omega
/-- Where a reading stands still. -/
theorem RB.told {w W : World} {lo R ln : Nat} {v : Value} {S : List SecO} (h : RB w lo R v S ln) (hb : Below w.heap.size w W) : ∃ v n, W.heap[R]? = some (.cells #[.int .i64 (ln : Int), v, n] 57 (0, 0)) := ⟨_, _, (h.later hb).row⟩
theorem lowB {B C : Nat} {w w' : World} (h : Below B w w') (hc : C ≤ B) : Below C w w' := ⟨h.os, h.tape, h.output, h.size, fun k hk => h.block k (by omega)⟩
set_option maxRecDepth 10000 in
set_option maxHeartbeats 1600000 in
theorem takeHead_any (A : Nat → Addr) (t : ByteArray) (ht : t.size ≤ 4194400) (w : World) (lo R ln : Nat) (v : Value) (S : List SecO) (hr : RB w lo R v S ln) (hlo : lo ≤ w.heap.size) (hl : S.length ≤ 500) (hm : Mx w) (he : Sents w A) :
    Calls Tryz.prog 60 #[.pointer (some ⟨R, 0, none⟩), .string t] w fun e w' => TkA A lo R ln w' (headS (secsO S) t.data.toList) e ∧ Below R w w' := by
  obtain ⟨a, c, rfl, hcap⟩ := hr.form
  have hRs := hr.size
  have hRlo := hr.lt
  have HRB := hid0 hr
  have HC1 : Hid (∀ W, Below w.heap.size w W → W.cell? ⟨R, 1, none⟩ = some (.slice a S.length c) ∧ W.frozen? ⟨R, 1, none⟩ = false) := hid0 (fun W hW => ⟨(hr.later hW).cells.2.1, (hr.later hW).cells.2.2.2 1⟩)
  have HE : Hid (∀ W, Below w.heap.size w W → Sents W A) := hid0 (fun W hW => he.below hW)
  have HSu := hid0 (csuf_any t ht w)
  obtain ⟨i1, hi1⟩ : ∃ i1, i1 = Lib.trimSuffix t.data.toList [93] := ⟨_, rfl⟩
  have hl1 : (strOf i1).size ≤ 4194400 := by
    rw [strOf_size, hi1]
    have := trimSuffix_le t.data.toList [93]
    rw [bsize] at this
    omega
  have hTr := fun W => strim_any (strOf i1) hl1 W
  simp only [strOf_data] at hTr
  have HTr := hid0 hTr
  have HTg : Hid (∀ W, Below w.heap.size w W → ∀ k, tagF (Lib.trimS i1 [32, 9]) = some k → Calls Tryz.prog 88 #[.string (strOf (Lib.trimS i1 [32, 9]))] W fun e w' => e = .returned (.string (strOf k)) ∧ Below W.heap.size W w') := hid0 (fun W hW k hk => readTag_ok A _ k W (hm.below hW) (he.below hW) (by rw [strOf_data]; exact hk))
  have HTb : Hid (∀ W, Below w.heap.size w W → tagF (Lib.trimS i1 [32, 9]) = none → Calls Tryz.prog 88 #[.string (strOf (Lib.trimS i1 [32, 9]))] W fun e w' => Gives A 1 e ∧ Below W.heap.size W w') := hid0 (fun W hW hk => readTag_bad A _ W (hm.below hW) (he.below hW) (by rw [strOf_data]; exact hk))
  have HHs : Hid (∀ W, Below w.heap.size w W → ∀ x, Calls Tryz.prog 43 #[.slice a S.length c, .string x] W fun e w' => e = .returned (.bool (hasL (secsO S) x)) ∧ Below W.heap.size W w') := hid0 (fun W hW x => by
    have h := has_any (secsO S) a c x W (by rw [secsO_length]; omega) (hr.later hW).xa
    rw [secsO_length] at h
    exact h)
  unfold headS
  rw [← hi1] at HSu ⊢
  rw [secsO_length]
  have e0 := (HE.out w (Below.refl _ _)).c1
  clear hi1 hTr hm he hr
  generalize Lib.trimS i1 [32, 9] = i2 at *
  generalize strOf i1 = T1 at *
  cases hsx : Lib.hasSuffix t.data.toList [93] with
  | false =>
    rw [hsx] at HSu
    rw [if_neg (by decide)]
    unfold TkA Gives
    clear hsx HTr HTg HTb HHs
    go_enter Tryz.func60, Tryz.ntmps60
    go_wp2_with (first
      | (go_at_call 86; refine HSu.out.mono ?_; rintro e w1 ⟨rfl, hw1⟩; have hw1' := hw1.symm; subst hw1'; clear hw1)
      | (go_at_call 87; refine (need_f _ _ _).mono ?_; rintro e w2 ⟨rfl, hw2⟩; subst hw2)
      | fail)
    exact ⟨rfl, ⟨rfl, HRB.out.told (Below.refl _ _)⟩, Below.refl _ _⟩
  | true =>
    rw [hsx] at HSu
    rw [if_pos rfl]
    have M1 : Hid True := trivial
    cases htg : tagF i2 with
    | none =>
      have HT2 := hid0 (fun W hW => HTb.out W hW htg)
      unfold Gives at HT2
      simp only
      unfold TkA Gives
      clear hsx HTg HTb HHs htg
      go_enter Tryz.func60, Tryz.ntmps60
      go_wp2_with (first
        | (go_at_call 86; refine HSu.out.mono ?_; rintro e w1 ⟨rfl, hw1⟩; have hw1' := hw1.symm; subst hw1'; clear hw1)
        | (go_at_call 87; refine (need_t _ _).mono ?_; rintro e w2 ⟨rfl, hw2⟩; have hw2' := hw2.symm; subst hw2'; clear hw2)
        | (go_at_call 40; refine (HTr.out _).mono ?_; rintro e w3 ⟨rfl, hb3⟩)
        | (go_at_call 88; refine (HT2.out _ hb3).mono ?_; rintro e w4 ⟨rfl, hb4⟩; have HB4 := hid0 (Below.later hb3 hb4))
        | fail)
      exact ⟨rfl, ⟨rfl, HRB.out.told HB4.out⟩, lowB HB4.out (by omega)⟩
    | some k =>
      have HT2 := hid0 (fun W hW => HTg.out W hW k htg)
      simp only
      have HH2 := hid0 (fun W hW => HHs.out W hW (strOf k))
      generalize strOf k = K at *
      clear hsx HTg HTb HHs htg
      by_cases h5 : S.length < 500
      · rw [if_pos h5]
        have h5I : (S.length : Int) < 500 := by omega
        have hd5 : decide ((S.length : Int) < 500) = true := decide_eq_true h5I
        cases hhs : hasL (secsO S) K with
        | true =>
          rw [hhs] at HH2
          rw [if_pos rfl]
          unfold TkA Gives
          clear hhs
          go_enter Tryz.func60, Tryz.ntmps60
          go_wp2_with (first
            | (go_at_call 86; refine HSu.out.mono ?_; rintro e w1 ⟨rfl, hw1⟩; have hw1' := hw1.symm; subst hw1'; clear hw1)
            | (go_at_call 87; refine (need_t _ _).mono ?_; rintro e w2 ⟨rfl, hw2⟩; have hw2' := hw2.symm; subst hw2'; clear hw2)
            | (go_at_call 40; refine (HTr.out _).mono ?_; rintro e w3 ⟨rfl, hb3⟩)
            | (go_at_call 88; refine (HT2.out _ hb3).mono ?_; rintro e w4 ⟨rfl, hb4⟩; have HB4 := hid0 (Below.later hb3 hb4); clear hb3 hb4)
            | fail)
          obtain ⟨x1, x2⟩ := HC1.out w4 HB4.out
          have x3 := (HE.out w4 HB4.out).c2
          go_quiet ((go_at_call 87; exact Calls.quiet_of_same (need_tb _ _ _ (by first | rfl | exact decide_eq_true (by omega)))))
          go_wp2
          have HB5 : Hid (Below w.heap.size w (w4.drewN nq)) := hid0 (drewN_keeps HB4.out nq)
          generalize w4.drewN nq = w5 at *
          have HSo : Hid (∀ W, Below w.heap.size w W → Below w.heap.size w W ∧ W.cell? ⟨R, 1, none⟩ = some (.slice a S.length c) ∧ W.cell? ⟨4, 0, none⟩ = some (.iface 216 (.pointer (some (A 4))))) := hid0 (fun W hW => ⟨hW, (HC1.out W hW).1, (HE.out W hW).c4⟩)
          refine wp_region_held_drew (S := (fun W => Below w.heap.size w W ∧ W.cell? ⟨R, 1, none⟩ = some (.slice a S.length c) ∧ W.cell? ⟨4, 0, none⟩ = some (.iface 216 (.pointer (some (A 4)))))) (by kernel_rfl) ?_ (fun hHeld => ?_)
          · exact HSo.out _ (drewN_keeps HB5.out 1)
          have HB6 := hid0 hHeld.1
          refine tkV (i := 0) (d := some 26) (v := ?_) rfl (by kernel_rfl) (by kernel_rfl) (by kernel_rfl) rfl (fun _ _ _ h => h) (by rfl) ?_ (by assumption) ?_
          rotate_left
          · (intro w hSw; (try dsimp only at hSw); (try simp only [List.getElem_toArray, List.getElem_cons_zero]); go_simp; try with_reducible rfl)
          simp only [Act.put, List.setIfInBounds_toArray, List.set_cons_zero, List.set_cons_succ]
          refine tkV (i := 1) (d := some 27) (v := ?_) rfl (by kernel_rfl) (by kernel_rfl) (by kernel_rfl) rfl (fun _ _ _ h => h) (by rfl) ?_ (by assumption) ?_
          rotate_left
          · (intro w hSw; (try dsimp only at hSw); (try simp only [List.getElem_toArray, List.getElem_cons_zero, List.getElem_cons_succ]); go_simp; try with_reducible rfl)
          simp only [Act.put, List.setIfInBounds_toArray, List.set_cons_zero, List.set_cons_succ]
          refine tkV (i := 2) (d := some 28) (v := ?_) rfl (by kernel_rfl) (by kernel_rfl) (by kernel_rfl) rfl (fun _ _ _ h => h) (by rfl) ?_ (by assumption) ?_
          rotate_left
          · (intro w hSw; (try dsimp only at hSw); (try simp only [List.getElem_toArray, List.getElem_cons_zero, List.getElem_cons_succ]); go_simp; try with_reducible rfl)
          simp only [Act.put, List.setIfInBounds_toArray, List.set_cons_zero, List.set_cons_succ]
          refine tkV (i := 3) (d := some 29) (v := ?_) rfl (by kernel_rfl) (by kernel_rfl) (by kernel_rfl) rfl (fun _ _ _ h => h) (by rfl) ?_ (by assumption) ?_
          rotate_left
          · (intro w hSw; (try dsimp only at hSw); (try simp only [List.getElem_toArray, List.getElem_cons_zero, List.getElem_cons_succ]); go_simp; try with_reducible rfl)
          simp only [Act.put, List.setIfInBounds_toArray, List.set_cons_zero, List.set_cons_succ]
          refine tkV (i := 4) (d := some 30) (v := ?_) rfl (by kernel_rfl) (by kernel_rfl) (by kernel_rfl) rfl (fun _ _ _ h => h) (by rfl) ?_ (by assumption) ?_
          rotate_left
          · (intro w hSw; (try dsimp only at hSw); (try simp only [List.getElem_toArray, List.getElem_cons_zero, List.getElem_cons_succ]); go_simp; try with_reducible rfl)
          simp only [Act.put, List.setIfInBounds_toArray, List.set_cons_zero, List.set_cons_succ]
          refine tkV (i := 7) (d := some 33) (v := ?_) rfl (by kernel_rfl) (by kernel_rfl) (by kernel_rfl) rfl (fun _ _ _ h => h) (by rfl) ?_ (by assumption) ?_
          rotate_left
          · (intro w hSw; (try dsimp only at hSw); (try simp only [List.getElem_toArray, List.getElem_cons_zero, List.getElem_cons_succ]); go_simp; try with_reducible rfl)
          simp only [Act.put, List.setIfInBounds_toArray, List.set_cons_zero, List.set_cons_succ]
          refine wpAnyH_ready (rs := [5]) (by kernel_rfl) (by simp) (AllReadyH.cons rfl (fun K hK => ?_) AllReadyH.nil)
          try simp only [List.getElem_toArray, List.getElem_cons_zero, List.getElem_cons_succ]
          go_simp
          go_split_ands
          refine (HH2.out _ HB6.out).mono ?_
          rintro e w6 ⟨rfl, hb6⟩
          have HW6 := hid0 (Below.later HB6.out hb6)
          clear hb6
          go_wp2_with fail
          refine hK.out _ _ ?_ (fun hHeld2 => ?_)
          · exact HSo.out _ HW6.out
          have HB7 := hid0 hHeld2.1
          clear hK K
          try simp only [Act.put, List.setIfInBounds_toArray, List.set_cons_zero, List.set_cons_succ]
          refine tkV (i := 6) (d := some 32) (v := ?_) rfl (by kernel_rfl) (by kernel_rfl) (by kernel_rfl) rfl (fun _ _ _ h => h) (by rfl) ?_ (by assumption) ?_
          rotate_left
          · (intro w hSw; (try dsimp only at hSw); (try simp only [List.getElem_toArray, List.getElem_cons_zero, List.getElem_cons_succ]); go_simp; try with_reducible rfl)
          simp only [Act.put, List.setIfInBounds_toArray, List.set_cons_zero, List.set_cons_succ]
          refine wpAnyH_ready (rs := [8]) (by kernel_rfl) (by simp) (AllReadyH.cons rfl (fun K hK => ?_) AllReadyH.nil)
          try simp only [List.getElem_toArray, List.getElem_cons_zero, List.getElem_cons_succ]
          go_simp
          go_split_ands
          refine (need_f _ _ _).mono ?_
          rintro e w7 ⟨rfl, hw7⟩
          subst hw7
          exact ⟨rfl, ⟨rfl, HRB.out.told HB7.out⟩, lowB HB7.out (by omega)⟩
        | false =>
          rw [hhs] at HH2
          rw [if_neg (by decide)]
          unfold TkA
          clear hhs
          go_enter Tryz.func60, Tryz.ntmps60
          go_wp2_with (first
            | (go_at_call 86; refine HSu.out.mono ?_; rintro e w1 ⟨rfl, hw1⟩; have hw1' := hw1.symm; subst hw1'; clear hw1)
            | (go_at_call 87; refine (need_t _ _).mono ?_; rintro e w2 ⟨rfl, hw2⟩; have hw2' := hw2.symm; subst hw2'; clear hw2)
            | (go_at_call 40; refine (HTr.out _).mono ?_; rintro e w3 ⟨rfl, hb3⟩)
            | (go_at_call 88; refine (HT2.out _ hb3).mono ?_; rintro e w4 ⟨rfl, hb4⟩; have HB4 := hid0 (Below.later hb3 hb4); clear hb3 hb4)
            | fail)
          obtain ⟨x1, x2⟩ := HC1.out w4 HB4.out
          have x3 := (HE.out w4 HB4.out).c2
          go_quiet ((go_at_call 87; exact Calls.quiet_of_same (need_tb _ _ _ (by first | rfl | exact decide_eq_true (by omega)))))
          go_wp2
          have HB5 : Hid (Below w.heap.size w (w4.drewN nq)) := hid0 (drewN_keeps HB4.out nq)
          generalize w4.drewN nq = w5 at *
          have HSo : Hid (∀ W, Below w.heap.size w W → Below w.heap.size w W ∧ W.cell? ⟨R, 1, none⟩ = some (.slice a S.length c) ∧ W.cell? ⟨4, 0, none⟩ = some (.iface 216 (.pointer (some (A 4))))) := hid0 (fun W hW => ⟨hW, (HC1.out W hW).1, (HE.out W hW).c4⟩)
          refine wp_region_held_drew (S := (fun W => Below w.heap.size w W ∧ W.cell? ⟨R, 1, none⟩ = some (.slice a S.length c) ∧ W.cell? ⟨4, 0, none⟩ = some (.iface 216 (.pointer (some (A 4)))))) (by kernel_rfl) ?_ (fun hHeld => ?_)
          · exact HSo.out _ (drewN_keeps HB5.out 1)
          have HB6 := hid0 hHeld.1
          refine tkV (i := 0) (d := some 26) (v := ?_) rfl (by kernel_rfl) (by kernel_rfl) (by kernel_rfl) rfl (fun _ _ _ h => h) (by rfl) ?_ (by assumption) ?_
          rotate_left
          · (intro w hSw; (try dsimp only at hSw); (try simp only [List.getElem_toArray, List.getElem_cons_zero]); go_simp; try with_reducible rfl)
          simp only [Act.put, List.setIfInBounds_toArray, List.set_cons_zero, List.set_cons_succ]
          refine tkV (i := 1) (d := some 27) (v := ?_) rfl (by kernel_rfl) (by kernel_rfl) (by kernel_rfl) rfl (fun _ _ _ h => h) (by rfl) ?_ (by assumption) ?_
          rotate_left
          · (intro w hSw; (try dsimp only at hSw); (try simp only [List.getElem_toArray, List.getElem_cons_zero, List.getElem_cons_succ]); go_simp; try with_reducible rfl)
          simp only [Act.put, List.setIfInBounds_toArray, List.set_cons_zero, List.set_cons_succ]
          refine tkV (i := 2) (d := some 28) (v := ?_) rfl (by kernel_rfl) (by kernel_rfl) (by kernel_rfl) rfl (fun _ _ _ h => h) (by rfl) ?_ (by assumption) ?_
          rotate_left
          · (intro w hSw; (try dsimp only at hSw); (try simp only [List.getElem_toArray, List.getElem_cons_zero, List.getElem_cons_succ]); go_simp; try with_reducible rfl)
          simp only [Act.put, List.setIfInBounds_toArray, List.set_cons_zero, List.set_cons_succ]
          refine tkV (i := 3) (d := some 29) (v := ?_) rfl (by kernel_rfl) (by kernel_rfl) (by kernel_rfl) rfl (fun _ _ _ h => h) (by rfl) ?_ (by assumption) ?_
          rotate_left
          · (intro w hSw; (try dsimp only at hSw); (try simp only [List.getElem_toArray, List.getElem_cons_zero, List.getElem_cons_succ]); go_simp; try with_reducible rfl)
          simp only [Act.put, List.setIfInBounds_toArray, List.set_cons_zero, List.set_cons_succ]
          refine tkV (i := 4) (d := some 30) (v := ?_) rfl (by kernel_rfl) (by kernel_rfl) (by kernel_rfl) rfl (fun _ _ _ h => h) (by rfl) ?_ (by assumption) ?_
          rotate_left
          · (intro w hSw; (try dsimp only at hSw); (try simp only [List.getElem_toArray, List.getElem_cons_zero, List.getElem_cons_succ]); go_simp; try with_reducible rfl)
          simp only [Act.put, List.setIfInBounds_toArray, List.set_cons_zero, List.set_cons_succ]
          refine tkV (i := 7) (d := some 33) (v := ?_) rfl (by kernel_rfl) (by kernel_rfl) (by kernel_rfl) rfl (fun _ _ _ h => h) (by rfl) ?_ (by assumption) ?_
          rotate_left
          · (intro w hSw; (try dsimp only at hSw); (try simp only [List.getElem_toArray, List.getElem_cons_zero, List.getElem_cons_succ]); go_simp; try with_reducible rfl)
          simp only [Act.put, List.setIfInBounds_toArray, List.set_cons_zero, List.set_cons_succ]
          refine wpAnyH_ready (rs := [5]) (by kernel_rfl) (by simp) (AllReadyH.cons rfl (fun K hK => ?_) AllReadyH.nil)
          try simp only [List.getElem_toArray, List.getElem_cons_zero, List.getElem_cons_succ]
          go_simp
          go_split_ands
          refine (HH2.out _ HB6.out).mono ?_
          rintro e w6 ⟨rfl, hb6⟩
          have HW6 := hid0 (Below.later HB6.out hb6)
          clear hb6
          go_wp2_with fail
          refine hK.out _ _ ?_ (fun hHeld2 => ?_)
          · exact HSo.out _ HW6.out
          have HB7 := hid0 hHeld2.1
          clear hK K
          try simp only [Act.put, List.setIfInBounds_toArray, List.set_cons_zero, List.set_cons_succ]
          refine tkV (i := 6) (d := some 32) (v := ?_) rfl (by kernel_rfl) (by kernel_rfl) (by kernel_rfl) rfl (fun _ _ _ h => h) (by rfl) ?_ (by assumption) ?_
          rotate_left
          · (intro w hSw; (try dsimp only at hSw); (try simp only [List.getElem_toArray, List.getElem_cons_zero, List.getElem_cons_succ]); go_simp; try with_reducible rfl)
          simp only [Act.put, List.setIfInBounds_toArray, List.set_cons_zero, List.set_cons_succ]
          refine wpAnyH_ready (rs := [8]) (by kernel_rfl) (by simp) (AllReadyH.cons rfl (fun K hK => ?_) AllReadyH.nil)
          try simp only [List.getElem_toArray, List.getElem_cons_zero, List.getElem_cons_succ]
          go_simp
          go_split_ands
          refine (need_t _ _).mono ?_
          rintro e w7 ⟨rfl, hw7⟩
          have hw7' := hw7.symm
          subst hw7'
          clear hw7
          go_wp2_with fail
          refine hK.out _ _ ?_ (fun hHeld3 => ?_)
          · exact HSo.out _ HB7.out
          clear hK K
          try simp only [Act.put, List.setIfInBounds_toArray, List.set_cons_zero, List.set_cons_succ]
          refine wpAnyH_done (by kernel_rfl) ?_ _
          obtain ⟨y1, y2⟩ := HC1.out _ HB7.out
          obtain ⟨j0, hj, hy0, hy1, hy2⟩ := info_parts infoSec
          have HX := hid0 (HRB.out.later HB7.out)
          have hsz := HB7.out.size
          clear hHeld3
          go_wp2_with (at_builtin; go_loud ((
            refine wpList_append_own_at _ (by rfl) _ _ 22 (by rfl) lo 38 j0 (.agg #[.string ⟨#[]⟩, .string ⟨#[]⟩, .slice none 0 0]) 3 56 Tryz.underlying22 hj hy0 hy1 hy2 rfl (by decide) (.slice a S.length c) S.length (cellsO S) (by rfl) (World.ownsRow.alloc HX.out.sec _) ⟨_, 0, none⟩ 1 1 [.string K, .string ⟨#[]⟩, .slice none 0 0] (by rfl) (by rfl) (cell3_new _ _ _ _ _) (fun u hu => by simp only [List.mem_cons, List.not_mem_nil, or_false] at hu; rcases hu with rfl | rfl | rfl <;> rfl) (by unfold maxLen; omega) (by omega) (by simp; omega) ?_
            intro v8 w8 hown8 hgrow8 _ hat8
            obtain ⟨g8, cap8, rfl, hg8a, hg8b, hg8c⟩ := own_form hown8 (Nat.succ_pos _)
            have hR8 := (hgrow8.block R (by simp; omega) (fun e => by have := (World.ownsRow.lt HX.out.sec R e.symm).1; omega)).trans ((Below.heap_alloc _ _ R (by omega)).trans HX.out.row)
            have c8 : w8.cell? ⟨R, 1, none⟩ = some (.slice a S.length c) := (by rw [cell_of_row _ _ _ _ _ _ hR8]; rfl)
            have f8 : w8.frozen? ⟨R, 1, none⟩ = false := frozen_of_row _ _ _ _ _ hR8
            have HF := hid0 (RB.head HX.out (fun q _ hq => Below.heap_alloc _ _ q hq) (by simp) hgrow8 hown8 hat8)
            have HL := hid0 ((((lowB HB7.out (Nat.le_of_lt hRs)).alloc (by omega) _).grown hgrow8 (by simp; omega) (fun q hq => by have := (World.ownsRow.lt HX.out.sec q hq).1; omega)).setCell (p := ⟨R, 1, none⟩) (Nat.le_refl _) (.slice (some ⟨g8, 0, none⟩) (S.length + 1) cap8))
            clear hown8 hgrow8 hat8 hR8 y1 y2 hg8a hg8b hg8c)))
          go_end0
          exact ⟨⟨rfl, _, _, by rw [secsO_snoc], HF.out⟩, HL.out⟩
      · rw [if_neg h5]
        have h5I : ¬ (S.length : Int) < 500 := by omega
        have hd5 : decide ((S.length : Int) < 500) = false := decide_eq_false h5I
        unfold TkA Gives
        clear HH2
        go_enter Tryz.func60, Tryz.ntmps60
        go_wp2_with (first
          | (go_at_call 86; refine HSu.out.mono ?_; rintro e w1 ⟨rfl, hw1⟩; have hw1' := hw1.symm; subst hw1'; clear hw1)
          | (go_at_call 87; refine (need_t _ _).mono ?_; rintro e w2 ⟨rfl, hw2⟩; have hw2' := hw2.symm; subst hw2'; clear hw2)
          | (go_at_call 40; refine (HTr.out _).mono ?_; rintro e w3 ⟨rfl, hb3⟩)
          | (go_at_call 88; refine (HT2.out _ hb3).mono ?_; rintro e w4 ⟨rfl, hb4⟩; have HB4 := hid0 (Below.later hb3 hb4); clear hb3 hb4)
          | fail)
        obtain ⟨x1, x2⟩ := HC1.out w4 HB4.out
        have x3 := (HE.out w4 HB4.out).c2
        refine wp_region_still_tail 7 (by kernel_rfl) (by kernel_rfl) ?_
        simp only [List.take_succ_cons, List.take_zero, List.drop_succ_cons, List.drop_zero]
        repeat still_step
        refine wpStill_nil ?_
        go_wp2_with (go_at_call 87; refine (need_fb _ _ _ _ (by first | rfl | exact decide_eq_false (by omega))).mono ?_; rintro e w5 ⟨rfl, hw5⟩; subst hw5)
        exact ⟨rfl, ⟨rfl, HRB.out.told (drewN_keeps HB4.out 1)⟩, lowB (drewN_keeps HB4.out 1) (by omega)⟩
end Go.Proofs.YtlfeiadgahdgoaaGreatDoor
namespace Go.Proofs.YtlfeiadgahdgoaaGreatDoor
open Go.RowKit Go.Shelf Go.Lib
theorem nil_list : (⟨#[]⟩ : ByteArray).toList = [] := by rw [ByteArray.toList_eq]
theorem root_list : (⟨#[114, 111, 111, 116]⟩ : ByteArray).toList = [114, 111, 111, 116] := by rw [ByteArray.toList_eq]
theorem beq_nil (s : ByteArray) : (s.toList == []) = decide (s = ⟨#[]⟩) := by have h := str_eq s ⟨#[]⟩; rw [nil_list] at h; exact h
theorem beq_root (s : ByteArray) : (s.toList == [114, 111, 111, 116]) = decide (s = ⟨#[114, 111, 111, 116]⟩) := by have h := str_eq s ⟨#[114, 111, 111, 116]⟩; rw [root_list] at h; exact h
theorem snocO {S : List SecO} (h : S ≠ []) : ∃ P x, S = P ++ [x] := ⟨S.dropLast, S.getLast h, (List.dropLast_concat_getLast h).symm⟩
theorem RB.last {w : World} {lo R ln g n cap : Nat} {P : List SecO} {x : SecO} (h : RB w lo R (.slice (some ⟨g, 0, none⟩) n cap) (P ++ [x]) ln) : w.cell? ⟨g, P.length * 3, none⟩ = some (.string x.s.loc) ∧ w.cell? ⟨g, P.length * 3 + 1, none⟩ = some (.string x.s.par) ∧ w.cell? ⟨g, P.length * 3 + 2, none⟩ = some x.ev ∧ (∀ j, w.frozen? ⟨g, j, none⟩ = false) := by
  have hn : (P ++ [x]).length = n := by
    rcases h.sec.2 with ⟨h1, _⟩ | ⟨_, _, _, h1, _⟩
    · cases h1
    · injection h1 with _ e; exact e.symm
  have h0 := h.sec
  rw [hn] at h0
  have hl : n = P.length + 1 := by rw [← hn]; simp
  obtain ⟨c0, c1, c2⟩ := cellsO_at (P ++ [x]) P.length (by simp)
  have e : (P ++ [x])[P.length]'(by simp) = x := by simp
  rw [e] at c0 c1 c2
  exact ⟨by rw [World.ownsRow.cellAt h0 _ (by omega)]; exact c0, by rw [World.ownsRow.cellAt h0 _ (by omega)]; exact c1, by rw [World.ownsRow.cellAt h0 _ (by omega)]; exact c2, fun j => World.ownsRow.frozenAt h0 j⟩
theorem last_secs (P : List SecO) (x : SecO) : (secsO (P ++ [x])).getLast? = some x.s ∧ (secsO (P ++ [x])).dropLast = secsO P := by rw [secsO_snoc]; simp
set_option maxRecDepth 10000 in
set_option maxHeartbeats 1600000 in
theorem takeParent_any (A : Nat → Addr) (t : ByteArray) (w : World) (lo R ln : Nat) (v : Value) (S : List SecO) (hr : RB w lo R v S ln) (hl : S.length ≤ 500) (hm : Mx w) (he : Sents w A) :
    Calls Tryz.prog 61 #[.pointer (some ⟨R, 0, none⟩), .string t] w fun e w' => TkA A lo R ln w' (parS (secsO S) t.data.toList) e ∧ Below R w w' := by
  have hRs := hr.size
  have hRlo := hr.lt
  have HRB := hid0 hr
  have HE : Hid (∀ W, Below w.heap.size w W → Sents W A) := hid0 (fun W hW => he.below hW)
  have HTl := hid0 (fun W => strimL_any t W)
  have hle : (Lib.trimLeftS t.data.toList [32, 9]).length ≤ t.size := by
    have := dropWhile_le ([32, 9].contains ·) t.data.toList
    rw [bsize] at this
    exact this
  have HTg : Hid (∀ W, Below w.heap.size w W → ∀ k, tagF (Lib.trimLeftS t.data.toList [32, 9]) = some k → Calls Tryz.prog 88 #[.string (strOf (Lib.trimLeftS t.data.toList [32, 9]))] W fun e w' => e = .returned (.string (strOf k)) ∧ Below W.heap.size W w') := hid0 (fun W hW k hk => readTag_ok A _ k W (hm.below hW) (he.below hW) (by rw [strOf_data]; exact hk))
  have HTb : Hid (∀ W, Below w.heap.size w W → tagF (Lib.trimLeftS t.data.toList [32, 9]) = none → Calls Tryz.prog 88 #[.string (strOf (Lib.trimLeftS t.data.toList [32, 9]))] W fun e w' => Gives A 1 e ∧ Below W.heap.size W w') := hid0 (fun W hW hk => readTag_bad A _ W (hm.below hW) (he.below hW) (by rw [strOf_data]; exact hk))
  unfold parS
  rw [bsize]
  have hz : (strOf (Lib.trimLeftS t.data.toList [32, 9])).size = (Lib.trimLeftS t.data.toList [32, 9]).length := strOf_size _
  generalize Lib.trimLeftS t.data.toList [32, 9] = l1 at *
  clear hm he hr
  by_cases hlt : l1.length < t.size
  · rw [if_pos hlt]
    have hltI : ((strOf l1).size : Int) < (t.size : Int) := by rw [hz]; omega
    have M1 : Hid True := trivial
    cases htg : tagF l1 with
    | none =>
      have HT2 := hid0 (fun W hW => HTb.out W hW htg)
      unfold Gives at HT2
      simp only
      unfold TkA Gives
      clear HTg HTb htg
      generalize strOf l1 = T1 at *
      go_enter Tryz.func61, Tryz.ntmps61
      go_wp2_with (first
        | (go_at_call 89; refine (HTl.out _).mono ?_; rintro e w1 ⟨rfl, hb1⟩; have e1 := (HE.out w1 hb1).c1; have HB1 := hid0 hb1; clear hb1)
        | (go_at_call 87; refine (need_tb _ _ _ (by first | rfl | exact decide_eq_true (by omega))).mono ?_; rintro e w2 ⟨rfl, hw2⟩; have hw2' := hw2.symm; subst hw2'; clear hw2)
        | (go_at_call 88; refine (HT2.out _ HB1.out).mono ?_; rintro e w3 ⟨rfl, hb3⟩; have HB3 := hid0 (Below.later HB1.out hb3); clear hb3)
        | fail)
      exact ⟨rfl, ⟨rfl, HRB.out.told HB3.out⟩, lowB HB3.out (by omega)⟩
    | some k =>
      have HT2 := hid0 (fun W hW => HTg.out W hW k htg)
      simp only
      generalize strOf k = K at *
      generalize strOf l1 = T1 at *
      clear HTg HTb htg
      by_cases hS : S = []
      · subst hS
        simp only [secsO, List.map_nil, List.getLast?_nil]
        obtain ⟨a, c, rfl, hcap⟩ := HRB.out.form
        have HSc : Hid (∀ W, Below w.heap.size w W → Calls Tryz.prog 90 #[.pointer (some ⟨R, 0, none⟩)] W fun e w' => Gives A 1 e ∧ ∃ q, w' = W.drewN q) := hid0 (fun W hW => section_bad A W R c a (HRB.out.later hW).cells.2.1 (HE.out W hW).c1)
        unfold Gives at HSc
        unfold TkA Gives
        go_enter Tryz.func61, Tryz.ntmps61
        go_wp2_with (first
          | (go_at_call 89; refine (HTl.out _).mono ?_; rintro e w1 ⟨rfl, hb1⟩; have e1 := (HE.out w1 hb1).c1; have HB1 := hid0 hb1; clear hb1)
          | (go_at_call 87; refine (need_tb _ _ _ (by first | rfl | exact decide_eq_true (by omega))).mono ?_; rintro e w2 ⟨rfl, hw2⟩; have hw2' := hw2.symm; subst hw2'; clear hw2)
          | (go_at_call 88; refine (HT2.out _ HB1.out).mono ?_; rintro e w3 ⟨rfl, hb3⟩; have HB3 := hid0 (Below.later HB1.out hb3); clear hb3)
          | (go_at_call 90; refine (HSc.out _ HB3.out).mono ?_; rintro e w4 ⟨rfl, q4, hw4⟩; subst hw4; have HB4 := hid0 (drewN_keeps HB3.out q4))
          | fail)
        exact ⟨rfl, ⟨rfl, HRB.out.told HB4.out⟩, lowB HB4.out (by omega)⟩
      · obtain ⟨P, x, rfl⟩ := snocO hS
        clear hS
        obtain ⟨q1, q2⟩ := last_secs P x
        rw [q1, q2]
        simp only
        clear q1 q2
        have hlen : (P ++ [x]).length = P.length + 1 := by simp
        obtain ⟨g, cap, hv, hga, hgb, hgc⟩ := own_form HRB.out.sec (by omega)
        rw [hlen] at hv hl
        subst hv
        have HSc : Hid (∀ W, Below w.heap.size w W → Calls Tryz.prog 90 #[.pointer (some ⟨R, 0, none⟩)] W fun e w' => e = .returned (.pointer (some ⟨g, P.length * 3, none⟩)) ∧ ∃ q, w' = W.drewN q) := hid0 (fun W hW => section_ok W R g P.length cap _ (HRB.out.later hW).cells.2.1 (by omega) (HE.out W hW).c1)
        have HL : Hid (∀ W, Below w.heap.size w W → W.cell? ⟨g, P.length * 3, none⟩ = some (.string x.s.loc) ∧ W.cell? ⟨g, P.length * 3 + 1, none⟩ = some (.string x.s.par) ∧ (∃ ae ce, x.ev = .slice ae x.s.ed.length ce ∧ W.cell? ⟨g, P.length * 3 + 2, none⟩ = some (.slice ae x.s.ed.length ce)) ∧ W.frozen? ⟨g, P.length * 3 + 1, none⟩ = false ∧ Sents W A) := hid0 (fun W hW => by
          obtain ⟨c0, c1, c2, c3⟩ := (HRB.out.later hW).last
          obtain ⟨ae, ce, e1, _⟩ := ((HRB.out.later hW).ed x (by simp)).ea
          exact ⟨c0, c1, ⟨ae, ce, e1, by rw [c2, e1]⟩, c3 _, HE.out W hW⟩)
        have HP : Hid (∀ W, Below w.heap.size w W → RB (W.setCell ⟨g, P.length * 3 + 1, none⟩ (.string K)) lo R (.slice (some ⟨g, 0, none⟩) (P.length + 1) cap) (P ++ [⟨⟨x.s.loc, K, x.s.ed⟩, x.ev⟩]) ln) := hid0 (fun W hW => (HRB.out.later hW).par K)
        have HLo : Hid (secsO P ++ [⟨x.s.loc, K, x.s.ed⟩] = secsO (P ++ [(⟨⟨x.s.loc, K, x.s.ed⟩, x.ev⟩ : SecO)])) := hid0 (by rw [secsO_snoc])
        have HTo : Hid (∀ W, Below w.heap.size w W → ∃ v n, W.heap[R]? = some (.cells #[.int .i64 (ln : Int), v, n] 57 (0, 0))) := hid0 (fun W hW => HRB.out.told hW)
        have b1 := beq_root x.s.loc
        have b2 := beq_nil x.s.par
        generalize x.s.loc = lc at *
        generalize x.s.par = pr at *
        generalize x.s.ed = ed at *
        generalize x.ev = xe at *
        generalize P.length * 3 = off at *
        by_cases h1 : lc = ⟨#[114, 111, 111, 116]⟩
        · rw [if_pos h1]
          rw [decide_eq_true h1] at b1
          unfold TkA Gives
          clear h1 b2 HP HLo
          go_enter Tryz.func61, Tryz.ntmps61
          go_wp2_with (first
          | (go_at_call 89; refine (HTl.out _).mono ?_; rintro e w1 ⟨rfl, hb1⟩; have e1 := (HE.out w1 hb1).c1; have HB1 := hid0 hb1; clear hb1)
          | (go_at_call 87; refine (need_tb _ _ _ (by first | rfl | exact decide_eq_true (by omega))).mono ?_; rintro e w2 ⟨rfl, hw2⟩; have hw2' := hw2.symm; subst hw2'; clear hw2)
          | (go_at_call 88; refine (HT2.out _ HB1.out).mono ?_; rintro e w3 ⟨rfl, hb3⟩; have HB3 := hid0 (Below.later HB1.out hb3); clear hb3)
          | (go_at_call 90; refine (HSc.out _ HB3.out).mono ?_; rintro e w4 ⟨rfl, q4, hw4⟩; subst hw4; have HB4 := hid0 (drewN_keeps HB3.out q4))
            | fail)
          obtain ⟨x1, x2, ⟨ae, ce, _, x3⟩, x4, x5⟩ := HL.out _ HB4.out
          have x6 := x5.c0
          generalize w3.drewN q4 = W4 at *
          clear x5
          refine wp_region_still_tail 6 (by kernel_rfl) (by kernel_rfl) ?_
          simp only [List.take_succ_cons, List.take_zero, List.drop_succ_cons, List.drop_zero]
          repeat still_step
          refine wpStill_nil ?_
          go_wp2_with (go_at_call 87; refine (need_fb _ _ _ _ (by first | rfl | assumption)).mono ?_; rintro e w5 ⟨rfl, hw5⟩; subst hw5)
          exact ⟨rfl, ⟨rfl, HTo.out _ (drewN_keeps HB4.out 1)⟩, lowB (drewN_keeps HB4.out 1) (by omega)⟩
        · rw [if_neg h1]
          rw [decide_eq_false h1] at b1
          clear h1
          by_cases h2 : pr = ⟨#[]⟩
          · rw [if_pos h2]
            rw [decide_eq_true h2] at b2
            clear h2
            by_cases h3 : ed.length = 0
            · rw [if_pos h3]
              rw [HLo.out]
              have b3 : ((ed.length : Int) == 0) = true := beq_iff_eq.2 (by omega)
              unfold TkA
              clear HLo HTo
              go_enter Tryz.func61, Tryz.ntmps61
              go_wp2_with (first
          | (go_at_call 89; refine (HTl.out _).mono ?_; rintro e w1 ⟨rfl, hb1⟩; have e1 := (HE.out w1 hb1).c1; have HB1 := hid0 hb1; clear hb1)
          | (go_at_call 87; refine (need_tb _ _ _ (by first | rfl | exact decide_eq_true (by omega))).mono ?_; rintro e w2 ⟨rfl, hw2⟩; have hw2' := hw2.symm; subst hw2'; clear hw2)
          | (go_at_call 88; refine (HT2.out _ HB1.out).mono ?_; rintro e w3 ⟨rfl, hb3⟩; have HB3 := hid0 (Below.later HB1.out hb3); clear hb3)
          | (go_at_call 90; refine (HSc.out _ HB3.out).mono ?_; rintro e w4 ⟨rfl, q4, hw4⟩; subst hw4; have HB4 := hid0 (drewN_keeps HB3.out q4))
                | fail)
              obtain ⟨x1, x2, ⟨ae, ce, _, x3⟩, x4, x5⟩ := HL.out _ HB4.out
              have x6 := x5.c0
              have x7 := x5.c4
              have x8 := x5.c6
              generalize w3.drewN q4 = W4 at *
              clear x5
              generalize ed.length = el at *
              clear h3
              go_quiet ((go_at_call 87; exact Calls.quiet_of_same (need_tb _ _ _ (by first | rfl | assumption))))
              go_wp2
              have HB5 : Hid (Below w.heap.size w (W4.drewN nq)) := hid0 (drewN_keeps HB4.out nq)
              generalize W4.drewN nq = W5 at *
              obtain ⟨x1, x2, ⟨ae, ce, _, x3⟩, x4, x5⟩ := HL.out _ HB5.out
              have x7 := x5.c4
              have x8 := x5.c6
              clear x5
              go_quiet ((go_at_call 87; exact Calls.quiet_of_same (need_tb _ _ _ (by first | rfl | assumption))))
              go_wp2
              have HB6 : Hid (Below w.heap.size w (W5.drewN nq)) := hid0 (drewN_keeps HB5.out nq)
              generalize W5.drewN nq = W6 at *
              obtain ⟨x1, x2, ⟨ae, ce, _, x3⟩, x4, x5⟩ := HL.out _ HB6.out
              have x8 := x5.c6
              clear x5
              go_quiet ((go_at_call 87; exact Calls.quiet_of_same (need_tb _ _ _ (by first | rfl | assumption))))
              go_wp2
              have HB7 : Hid (Below w.heap.size w (W6.drewN nq)) := hid0 (drewN_keeps HB6.out nq)
              generalize W6.drewN nq = W7 at *
              obtain ⟨x1, x2, ⟨ae, ce, _, x3⟩, x4, x5⟩ := HL.out _ HB7.out
              clear x5
              go_wp2
              go_end0
              exact ⟨⟨rfl, _, _, rfl, HP.out _ HB7.out⟩, (lowB HB7.out (Nat.le_of_lt hRs)).setCell (p := ⟨g, off + 1, none⟩) (by simp only; omega) _⟩
            · rw [if_neg h3]
              have b3 : ((ed.length : Int) == 0) = false := beq_eq_false_iff_ne.2 (by omega)
              unfold TkA Gives
              clear HP HLo
              go_enter Tryz.func61, Tryz.ntmps61
              go_wp2_with (first
          | (go_at_call 89; refine (HTl.out _).mono ?_; rintro e w1 ⟨rfl, hb1⟩; have e1 := (HE.out w1 hb1).c1; have HB1 := hid0 hb1; clear hb1)
          | (go_at_call 87; refine (need_tb _ _ _ (by first | rfl | exact decide_eq_true (by omega))).mono ?_; rintro e w2 ⟨rfl, hw2⟩; have hw2' := hw2.symm; subst hw2'; clear hw2)
          | (go_at_call 88; refine (HT2.out _ HB1.out).mono ?_; rintro e w3 ⟨rfl, hb3⟩; have HB3 := hid0 (Below.later HB1.out hb3); clear hb3)
          | (go_at_call 90; refine (HSc.out _ HB3.out).mono ?_; rintro e w4 ⟨rfl, q4, hw4⟩; subst hw4; have HB4 := hid0 (drewN_keeps HB3.out q4))
                | fail)
              obtain ⟨x1, x2, ⟨ae, ce, _, x3⟩, x4, x5⟩ := HL.out _ HB4.out
              have x6 := x5.c0
              have x7 := x5.c4
              have x8 := x5.c6
              generalize w3.drewN q4 = W4 at *
              clear x5
              generalize ed.length = el at *
              clear h3
              go_quiet ((go_at_call 87; exact Calls.quiet_of_same (need_tb _ _ _ (by first | rfl | assumption))))
              go_wp2
              have HB5 : Hid (Below w.heap.size w (W4.drewN nq)) := hid0 (drewN_keeps HB4.out nq)
              generalize W4.drewN nq = W5 at *
              obtain ⟨x1, x2, ⟨ae, ce, _, x3⟩, x4, x5⟩ := HL.out _ HB5.out
              have x7 := x5.c4
              have x8 := x5.c6
              clear x5
              go_quiet ((go_at_call 87; exact Calls.quiet_of_same (need_tb _ _ _ (by first | rfl | assumption))))
              go_wp2
              have HB6 : Hid (Below w.heap.size w (W5.drewN nq)) := hid0 (drewN_keeps HB5.out nq)
              generalize W5.drewN nq = W6 at *
              obtain ⟨x1, x2, ⟨ae, ce, _, x3⟩, x4, x5⟩ := HL.out _ HB6.out
              have x8 := x5.c6
              clear x5
              refine wp_region_still_tail 7 (by kernel_rfl) (by kernel_rfl) ?_
              simp only [List.take_succ_cons, List.take_zero, List.drop_succ_cons, List.drop_zero]
              repeat still_step
              refine wpStill_nil ?_
              go_wp2_with (go_at_call 87; refine (need_fb _ _ _ _ (by first | rfl | assumption)).mono ?_; rintro e w5 ⟨rfl, hw5⟩; subst hw5)
              exact ⟨rfl, ⟨rfl, HTo.out _ (drewN_keeps HB6.out 1)⟩, lowB (drewN_keeps HB6.out 1) (by omega)⟩
          · rw [if_neg h2]
            rw [decide_eq_false h2] at b2
            unfold TkA Gives
            clear h2 HP HLo
            go_enter Tryz.func61, Tryz.ntmps61
            go_wp2_with (first
          | (go_at_call 89; refine (HTl.out _).mono ?_; rintro e w1 ⟨rfl, hb1⟩; have e1 := (HE.out w1 hb1).c1; have HB1 := hid0 hb1; clear hb1)
          | (go_at_call 87; refine (need_tb _ _ _ (by first | rfl | exact decide_eq_true (by omega))).mono ?_; rintro e w2 ⟨rfl, hw2⟩; have hw2' := hw2.symm; subst hw2'; clear hw2)
          | (go_at_call 88; refine (HT2.out _ HB1.out).mono ?_; rintro e w3 ⟨rfl, hb3⟩; have HB3 := hid0 (Below.later HB1.out hb3); clear hb3)
          | (go_at_call 90; refine (HSc.out _ HB3.out).mono ?_; rintro e w4 ⟨rfl, q4, hw4⟩; subst hw4; have HB4 := hid0 (drewN_keeps HB3.out q4))
              | fail)
            obtain ⟨x1, x2, ⟨ae, ce, _, x3⟩, x4, x5⟩ := HL.out _ HB4.out
            have x6 := x5.c0
            have x7 := x5.c4
            generalize w3.drewN q4 = W4 at *
            clear x5
            go_quiet ((go_at_call 87; exact Calls.quiet_of_same (need_tb _ _ _ (by first | rfl | assumption))))
            go_wp2
            have HB5 : Hid (Below w.heap.size w (W4.drewN nq)) := hid0 (drewN_keeps HB4.out nq)
            generalize W4.drewN nq = W5 at *
            obtain ⟨x1, x2, ⟨ae, ce, _, x3⟩, x4, x5⟩ := HL.out _ HB5.out
            have x7 := x5.c4
            clear x5
            refine wp_region_still_tail 6 (by kernel_rfl) (by kernel_rfl) ?_
            simp only [List.take_succ_cons, List.take_zero, List.drop_succ_cons, List.drop_zero]
            repeat still_step
            refine wpStill_nil ?_
            go_wp2_with (go_at_call 87; refine (need_fb _ _ _ _ (by first | rfl | assumption)).mono ?_; rintro e w5 ⟨rfl, hw5⟩; subst hw5)
            exact ⟨rfl, ⟨rfl, HTo.out _ (drewN_keeps HB5.out 1)⟩, lowB (drewN_keeps HB5.out 1) (by omega)⟩
  · rw [if_neg hlt]
    have hltI : ¬ ((strOf l1).size : Int) < (t.size : Int) := by rw [hz]; omega
    unfold TkA Gives
    clear HTg HTb
    generalize strOf l1 = T1 at *
    go_enter Tryz.func61, Tryz.ntmps61
    go_wp2_with (first
      | (go_at_call 89; refine (HTl.out _).mono ?_; rintro e w1 ⟨rfl, hb1⟩; have e1 := (HE.out w1 hb1).c1; have HB1 := hid0 hb1; clear hb1)
      | (go_at_call 87; refine (need_fb _ _ _ _ (by first | rfl | exact decide_eq_false (by omega))).mono ?_; rintro e w2 ⟨rfl, hw2⟩; have hw2' := hw2.symm; subst hw2'; clear hw2)
      | fail)
    exact ⟨rfl, ⟨rfl, HRB.out.told HB1.out⟩, lowB HB1.out (by omega)⟩
end Go.Proofs.YtlfeiadgahdgoaaGreatDoor
namespace Go.Proofs.YtlfeiadgahdgoaaGreatDoor
open Go.RowKit Go.Shelf Go.Lib
set_option maxRecDepth 10000 in
theorem isCtl_any (p : Int) (w : World) : Calls Tryz.prog 56 #[.int .i64 p] w fun e w' => e = .returned (.bool (decide (p < 32) || (p == 127))) ∧ w' = w := by
  by_cases h : p < 32
  · have hd : decide (p < 32) = true := decide_eq_true h
    go_enter Tryz.func56, Tryz.ntmps56
    go_wp2
    go_ret
    exact ⟨by simp [h], rfl⟩
  · have hd : decide (p < 32) = false := decide_eq_false h
    go_enter Tryz.func56, Tryz.ntmps56
    go_wp2
    go_ret
    exact ⟨by simp, rfl⟩
theorem edge_zero (l : List UInt8) : edgeL l 0 = true := by simp [edgeL, edgeFrom]
theorem next_zero (l : List UInt8) : nextVal l 0 = .tuple #[unitVal (uniOf l).1 0 (uniOf l).2, .bool true] := by
  unfold nextVal
  rw [if_pos (edge_zero l)]
  simp
set_option maxRecDepth 10000 in
set_option maxHeartbeats 1600000 in
theorem readPoint_core (A : Nat → Addr) (t : ByteArray) (w : World) (p : Int) (n : Nat) (o : Option (Nat × List UInt8)) (Q : Ending → Prop) (hn : n ≤ t.size) (hp0 : -1 ≤ p) (hpm : p ≤ 100000000)
    (HNx : Hid (Calls Tryz.prog 77 #[.string t, .int .i64 0] w fun e w' => e = .returned (.tuple #[.agg #[.int .i64 p, .int .i64 0, .int .i64 (n : Int)], .bool true]) ∧ Below w.heap.size w w'))
    (HN : Hid (∀ W, Below w.heap.size w W → Calls Tryz.prog 156 #[.string t] W fun e w' => RdA A o e ∧ Below w.heap.size w w'))
    (HE : Hid (∀ W, Below w.heap.size w W → W.cell? ⟨1, 0, none⟩ = some (.iface 216 (.pointer (some (A 1))))))
    (HQ0 : Hid (p = 92 → ∀ e, RdA A o e → Q e))
    (HQ1 : Hid (p ≠ 92 → (p = -1 ∨ p < 32 ∨ p = 127) → ∀ e, Gives A 1 e → Q e))
    (HQ2 : Hid (p ≠ 92 → ¬ (p = -1 ∨ p < 32 ∨ p = 127) → Q (.returned (.tuple #[.int .i64 p, .string (t.extract n t.size)])))) :
    Calls Tryz.prog 128 #[.string t] w fun e w' => Q e ∧ Below w.heap.size w w' := by
  by_cases h92 : p = 92
  · have HQ := hid0 (HQ0.out h92)
    subst h92
    clear HQ0 HQ1 HQ2
    go_enter Tryz.func128, Tryz.ntmps128
    cases o with
    | none =>
      unfold RdA Gives at HN
      simp only at HN
      go_wp2_with (first
        | (go_at_call 77; refine HNx.out.mono ?_; rintro e w1 ⟨rfl, hb1⟩; have hs1 := hb1.size)
        | (go_at_call 156; refine (HN.out _ (by go_grown)).mono ?_; rintro e w2 ⟨rfl, hb2⟩)
        | fail)
      exact ⟨rfl, HQ.out _ rfl, hb2⟩
    | some x =>
      obtain ⟨n2, r⟩ := x
      unfold RdA at HN
      simp only at HN
      go_wp2_with (first
        | (go_at_call 77; refine HNx.out.mono ?_; rintro e w1 ⟨rfl, hb1⟩; have hs1 := hb1.size)
        | (go_at_call 156; refine (HN.out _ (by go_grown)).mono ?_; rintro e w2 ⟨rfl, hb2⟩)
        | fail)
      go_ret2
      exact ⟨HQ.out _ rfl, hb2⟩
  · have hq : (p == 92) = false := by simpa using h92
    clear HN HQ0
    by_cases hbad : p = -1 ∨ p < 32 ∨ p = 127
    · have HQ := hid0 (HQ1.out h92 hbad)
      clear HQ1 HQ2
      go_enter Tryz.func128, Tryz.ntmps128
      go_wp2_with (first
        | (go_at_call 77; refine HNx.out.mono ?_; rintro e w1 ⟨rfl, hb1⟩; have hs1 := hb1.size)
        | fail)
      have hc0 : (w1.alloc (.cells #[.int .i64 p, .int .i64 0, .int .i64 (n : Int)] 67)).cell? ⟨w1.heap.size, 0, none⟩ = some (.int .i64 p) := cell3_new w1 (.int .i64 p) (.int .i64 0) (.int .i64 (n : Int)) 67 0 _ rfl
      have hc2 : (w1.alloc (.cells #[.int .i64 p, .int .i64 0, .int .i64 (n : Int)] 67)).cell? ⟨w1.heap.size, 2, none⟩ = some (.int .i64 (n : Int)) := cell3_new w1 (.int .i64 p) (.int .i64 0) (.int .i64 (n : Int)) 67 2 _ rfl
      have HB2 : Hid (Below w.heap.size w (w1.alloc (.cells #[.int .i64 p, .int .i64 0, .int .i64 (n : Int)] 67))) := hid0 (by go_grown)
      generalize w1.alloc (.cells #[.int .i64 p, .int .i64 0, .int .i64 (n : Int)] 67) = W2 at *
      generalize w1.heap.size = B at *
      have e2 := HE.out W2 HB2.out
      clear hb1 hs1
      by_cases hm : p = -1
      · subst hm
        refine wp_region_still_tail 10 (by kernel_rfl) (by kernel_rfl) ?_
        simp only [List.take_succ_cons, List.take_zero, List.drop_succ_cons, List.drop_zero]
        repeat still_step
        refine wpStill_nil ?_
        go_wp2_with (go_at_call 87; refine (need_f _ _ _).mono ?_; rintro e w4 ⟨rfl, hw4⟩; subst hw4)
        exact ⟨rfl, HQ.out _ rfl, drewN_keeps HB2.out 1⟩
      · have hne : (p != -1) = true := by simp; omega
        have HCt : Hid (∀ W, Calls Tryz.prog 56 #[.int .i64 p] W fun e w' => e = .returned (.bool true) ∧ w' = W) := hid0 (fun W => by
          have h := isCtl_any p W
          rw [show (decide (p < 32) || (p == 127)) = true by simp; omega] at h
          exact h)
        clear hm hbad h92
        refine wp_region_still_tail 10 (by kernel_rfl) (by kernel_rfl) ?_
        simp only [List.take_succ_cons, List.take_zero, List.drop_succ_cons, List.drop_zero]
        still_step
        still_step
        still_step
        still_step
        still_step
        still_step
        still_call (HCt.out _)
        still_step
        still_step
        still_step
        refine wpStill_nil ?_
        go_wp2_with (go_at_call 87; refine (need_f _ _ _).mono ?_; rintro e w4 ⟨rfl, hw4⟩; subst hw4)
        exact ⟨rfl, HQ.out _ rfl, drewN_keeps HB2.out 1⟩
    · have HQ := hid0 (HQ2.out h92 hbad)
      clear HQ1 HQ2
      have hm1 : (p == -1) = false := by simp; omega
      go_enter Tryz.func128, Tryz.ntmps128
      go_wp2_with (first
        | (go_at_call 77; refine HNx.out.mono ?_; rintro e w1 ⟨rfl, hb1⟩; have hs1 := hb1.size)
        | fail)
      have hc0 : (w1.alloc (.cells #[.int .i64 p, .int .i64 0, .int .i64 (n : Int)] 67)).cell? ⟨w1.heap.size, 0, none⟩ = some (.int .i64 p) := cell3_new w1 (.int .i64 p) (.int .i64 0) (.int .i64 (n : Int)) 67 0 _ rfl
      have hc2 : (w1.alloc (.cells #[.int .i64 p, .int .i64 0, .int .i64 (n : Int)] 67)).cell? ⟨w1.heap.size, 2, none⟩ = some (.int .i64 (n : Int)) := cell3_new w1 (.int .i64 p) (.int .i64 0) (.int .i64 (n : Int)) 67 2 _ rfl
      have HB2 : Hid (Below w.heap.size w (w1.alloc (.cells #[.int .i64 p, .int .i64 0, .int .i64 (n : Int)] 67))) := hid0 (by go_grown)
      generalize w1.alloc (.cells #[.int .i64 p, .int .i64 0, .int .i64 (n : Int)] 67) = W2 at *
      generalize w1.heap.size = B at *
      have e2 := HE.out W2 HB2.out
      clear hb1 hs1
      have hne : (p != -1) = true := by simp; omega
      have HCt : Hid (∀ W, Calls Tryz.prog 56 #[.int .i64 p] W fun e w' => e = .returned (.bool false) ∧ w' = W) := hid0 (fun W => by
        have h := isCtl_any p W
        rw [show (decide (p < 32) || (p == 127)) = false by simp; omega] at h
        exact h)
      clear HE hbad h92
      go_quiet (first
        | (go_at_call 56; exact Calls.quiet_of_same (HCt.out _))
        | (go_at_call 87; exact Calls.quiet_of_same (need_tb _ _ _ (by rfl))))
      go_wp2
      go_quiet ((fail))
      go_wp2
      go_ret2
      exact ⟨HQ.out, drewN_keeps (drewN_keeps HB2.out _) _⟩
theorem readPoint_any (A : Nat → Addr) (t : ByteArray) (h0 : 0 < t.size) (ht : t.size ≤ 4194400) (w : World) (hm : Mx w) (hs : Syn w) (hQ : SeqAt w) (he : Sents w A) : Calls Tryz.prog 128 #[.string t] w fun e w' => RdA A (pntF t.data.toList) e ∧ Below w.heap.size w w' := by
  have hn := next_in t 0 h0 (by omega) w hQ
  rw [next_zero] at hn
  have hl : t.data.toList.length = t.size := bsize t
  have hu : 1 ≤ (uniOf t.data.toList).2 ∧ (uniOf t.data.toList).2 ≤ t.size ∧ -1 ≤ (uniOf t.data.toList).1 ∧ (uniOf t.data.toList).1 ≤ 100000000 := by
    cases hd : t.data.toList with
    | nil => rw [hd] at hl; simp at hl; omega
    | cons a r =>
      rw [hd] at hl
      have h1 := uni_size a r
      have h2 := uni_bound a r
      simp only [List.length_cons] at hl
      omega
  refine readPoint_core A t w (uniOf t.data.toList).1 (uniOf t.data.toList).2 (escF t.data.toList) (RdA A (pntF t.data.toList)) hu.2.1 hu.2.2.1 hu.2.2.2 (hid0 hn) (hid0 (fun W hW => (readEscape_any A t ht W (hm.below hW) (hs.below hW) (he.below hW)).mono (fun e w' h => ⟨h.1, Below.later hW h.2⟩))) (hid0 (fun W hW => (he.below hW).c1)) (hid0 (fun h e hr => ?_)) (hid0 (fun h h1 e hr => ?_)) (hid0 (fun h h1 => ?_))
  · rw [pntF, if_pos h]
    exact hr
  · rw [pntF, if_neg h, if_pos h1]
    exact hr
  · rw [pntF, if_neg h, if_neg h1]
    have e1 : (((uniOf t.data.toList).1.toNat : Nat) : Int) = (uniOf t.data.toList).1 := by omega
    have e2 : t.extract (uniOf t.data.toList).2 t.size = strOf (t.data.toList.drop (uniOf t.data.toList).2) := by rw [← ext_tail]; rfl
    unfold RdA
    simp only
    rw [e1, e2]
end Go.Proofs.YtlfeiadgahdgoaaGreatDoor
namespace Go.Proofs.YtlfeiadgahdgoaaGreatDoor
open Go.RowKit Go.Shelf Go.Lib
/-- Numbers in a row of one's own. -/
def OwnI (w : World) (base : Nat) (v : Value) (ps : List Int) : Prop := w.ownsRow base 3 1 v ps.length (ps.map (Value.int .i64))
theorem infoInt : (Tryz.prog.info? 3).map (fun i => (i.zero, i.size, i.bytes)) = some (some (.int .i64 0), 1, 8) := by kernel_rfl
theorem OwnI.later {w w' : World} {base : Nat} {v : Value} {ps : List Int} (h : OwnI w base v ps) (hb : Below w.heap.size w w') : OwnI w' base v ps := by
  obtain ⟨h1, h2⟩ := h
  refine ⟨h1, ?_⟩
  rcases h2 with h2 | ⟨g, cap, cur, hv, hg, hh, r⟩
  · exact .inl h2
  · exact .inr ⟨g, cap, cur, hv, hg, (hb.block g (Array.getElem?_eq_some_iff.1 hh).1).trans hh, r⟩
theorem OwnI.pa {w : World} {base : Nat} {v : Value} {ps : List Int} (h : OwnI w base v ps) : ∃ a cap, v = .slice a ps.length cap ∧ PA w a ps := by
  have h0 := h
  rcases h.2 with ⟨rfl, hn⟩ | ⟨g, cap, cur, rfl, _⟩
  · have : ps = [] := List.length_eq_zero_iff.1 hn
    subst this
    exact ⟨none, 0, rfl, ⟨fun k h => absurd h (Nat.not_lt_zero _)⟩⟩
  · refine ⟨_, cap, rfl, ⟨fun k hk => ⟨g, 0, rfl, ?_⟩⟩⟩
    rw [Nat.zero_add, World.ownsRow.cellAt h0 k (by omega)]
    simp [hk]
theorem ownI_snoc {w wr w1 : World} {base : Nat} {v v' : Value} {ps : List Int} {p : Int} {o : Obj} (hown : OwnI wr base v ps)
    (hown' : w1.ownsRow base 3 1 v' (ps.length + 1) (ps.map (Value.int .i64) ++ [.int .i64 p])) (hgrow : (wr.alloc o).grownBy w1 v.ownBlock) (hbel : Below base w wr) (hb : base ≤ w.heap.size) :
    OwnI w1 base v' (ps ++ [p]) ∧ Below base w w1 := by
  have hsz := hbel.size
  refine ⟨?_, (hbel.alloc (by omega) o).grown hgrow (by simp; omega) (fun k hk => (World.ownsRow.lt hown k hk).1)⟩
  unfold OwnI
  rw [List.length_append, List.map_append]
  exact hown'
/-- What readPoints answers, or gives up with. -/
def RsA (A : Nat → Addr) (w w' : World) (o : Option (List Nat)) (e : Ending) : Prop := match o with
  | none => Gives A 1 e
  | some ps => ∃ v, e = .returned v ∧ OwnI w' w.heap.size v (toI ps)
def moreP (pre : List Nat) (o : Option (List Nat)) : Option (List Nat) := match o with
  | none => none
  | some ps => some (pre ++ ps)
theorem moreP_step {l r : List UInt8} {pre : List Nat} {n : Nat} (hl : l ≠ []) (h : pntF l = some (n, r)) : moreP pre (pntsOf l) = moreP (pre ++ [n]) (pntsOf r) := by
  rw [pnts_step hl, h]
  simp only
  cases pntsOf r with
  | none => rfl
  | some ps => simp [moreP]
theorem moreP_bad {l : List UInt8} {pre : List Nat} (hl : l ≠ []) (h : pntF l = none) : moreP pre (pntsOf l) = none := by
  rw [pnts_step hl, h]
  rfl
theorem toI_snoc (pre : List Nat) (n : Nat) : toI (pre ++ [n]) = toI pre ++ [(n : Int)] := by simp [toI]
set_option maxRecDepth 10000 in
set_option maxHeartbeats 800000 in
theorem readPoints_any (A : Nat → Addr) (t : ByteArray) (ht : t.size ≤ 4194400) (w : World) (hm : Mx w) (hs : Syn w) (hQ : SeqAt w) (he : Sents w A) : Calls Tryz.prog 91 #[.string t] w fun e w' => RsA A w w' (pntsOf t.data.toList) e ∧ Below w.heap.size w w' := by
  obtain ⟨i0, hi, hz0, hz1, hz2⟩ := info_parts infoInt
  obtain ⟨O, hO⟩ : ∃ O, O = pntsOf t.data.toList := ⟨_, rfl⟩
  have HO0 : Hid (O = moreP [] (pntsOf t.data.toList)) := hid0 (by rw [hO]; unfold moreP; cases pntsOf t.data.toList <;> rfl)
  rw [← hO]
  have HRP : Hid (∀ (r : List UInt8) W, r ≠ [] → r.length ≤ 4194400 → Below w.heap.size w W → Calls Tryz.prog 128 #[.string (strOf r)] W fun e w' => RdA A (pntF r) e ∧ Below W.heap.size W w') := hid0 (fun r W hr hl hW => by
    have h := readPoint_any A (strOf r) (by rw [strOf_size]; exact List.length_pos_iff.2 hr) (by rw [strOf_size]; exact hl) W (hm.below hW) (hs.below hW) (hQ.later hW) (he.below hW)
    rw [strOf_data] at h
    exact h)
  have hlt : t.data.toList.length ≤ 4194400 := by rw [bsize]; exact ht
  have et : t = strOf t.data.toList := rfl
  rw [et]
  generalize t.data.toList = l0 at *
  clear hm hs hQ he hO ht et t
  go_enter Tryz.func91, Tryz.ntmps91
  go_wp2
  go_loopw [3, 4] (fun v s wr => ∃ (pre : List Nat) (r : List UInt8), s = .string (strOf r) ∧ pre.length + r.length ≤ l0.length ∧ Hid (O = moreP pre (pntsOf r)) ∧ Hid (OwnI wr w.heap.size v (toI pre)) ∧ Hid (Below w.heap.size w wr)) (fun _ s _ => (match s with | .string x => x.size | _ => 0))
  case atStart => exact ⟨[], l0, rfl, by simp, HO0, hid0 (World.ownsRow_nil _ _ _ _), hid0 (Below.refl _ _)⟩
  case round =>
    obtain ⟨pre, r, rfl, hpr, HO, HV, HB⟩ := hrel
    by_cases hr : r = []
    · have HE := hid0 HO.out
      have hse : strOf r = (⟨#[]⟩ : ByteArray) := by rw [hr]; rfl
      have HQ : Hid (O = some pre) := hid0 (by rw [HO.out, hr, pnts_nil]; simp [moreP])
      rw [hse]
      clear hr HE
      go_wp2
      go_ret
      refine ⟨?_, HB.out⟩
      rw [HQ.out]
      exact ⟨_, rfl, HV.out⟩
    · have hne : ((strOf r).toList == []) = false := by
        have h1 : strOf r ≠ (⟨#[]⟩ : ByteArray) := fun e => hr (by have := congrArg (fun x : ByteArray => x.data.toList) e; simpa [strOf_data] using this)
        have h2 := str_eq (strOf r) ⟨#[]⟩
        rw [decide_eq_false h1, ByteArray.toList_eq (⟨#[]⟩ : ByteArray)] at h2
        exact h2
      have hC := HRP.out r
      cases hp : pntF r with
      | none =>
        have HN := hid0 (moreP_bad (pre := pre) hr hp)
        have H1 := hid0 (hC wr hr (by omega) HB.out)
        rw [hp] at H1
        unfold RdA Gives at H1
        simp only at H1
        clear hC HRP hp hr
        go_wp2_with (go_at_call 128; refine H1.out.mono ?_; rintro e w1 ⟨rfl, hb1⟩)
        refine ⟨rfl, ?_, Below.later HB.out hb1⟩
        rw [HO.out, HN.out]
        exact rfl
      | some x =>
        obtain ⟨n, r2⟩ := x
        have HN := hid0 (moreP_step (pre := pre) hr hp)
        have hsh := pntF_short hr hp
        have hnl := pntF_lt hr hp
        have H1 := hid0 (hC wr hr (by omega) HB.out)
        rw [hp] at H1
        unfold RdA at H1
        simp only at H1
        have hlen : (toI pre).length = pre.length := by simp [toI]
        have hB := HB.out
        have hsz := hB.size
        clear hC HRP hp hr
        go_wp2_with (first
          | (go_at_call 128; refine H1.out.mono ?_; rintro e w1 ⟨rfl, hb1⟩; have HV1 := hid0 (HV.out.later hb1); have HB1 := hid0 (Below.later HB.out hb1); have hs1 := hb1.size; clear hb1)
          | (at_builtin; refine wpList_append_own _ rfl _ _ 127 rfl w.heap.size 3 i0 (.int .i64 0) 1 8 Tryz.underlying127 hi hz0 hz1 hz2 rfl (by decide) _ _ _ rfl (HV1.out.alloc _) ⟨_, 0, none⟩ 1 1 [.int .i64 (n : Int)] rfl rfl (cell_one_new _ _ _) (by simp [Value.oneCell']) (by rw [hlen]; unfold maxLen; omega) (by rw [hlen]; omega) (by simp; omega) ?_; intro v' w2 hown' hgrow _)
          | fail)
        have R := ownI_snoc HV1.out hown' hgrow HB1.out (Nat.le_refl _)
        rw [← toI_snoc] at R
        have HR := hid0 R
        clear R hown' hgrow
        go_roundw
        case rel => exact ⟨pre ++ [n], r2, rfl, by simp; omega, hid0 (HO.out.trans HN.out), hid0 HR.out.1, hid0 HR.out.2⟩
        case measure => simp only [strOf_size]; omega
end Go.Proofs.YtlfeiadgahdgoaaGreatDoor
namespace Go.Proofs.YtlfeiadgahdgoaaGreatDoor
open Go.RowKit Go.Shelf Go.Lib
set_option maxRecDepth 10000 in
set_option maxHeartbeats 3200000 in
theorem takeEdit_any (A : Nat → Addr) (ad : Bool) (t : ByteArray) (ht : t.size ≤ 4194400) (w : World) (lo R ln : Nat) (v : Value) (S : List SecO) (hr : RB w lo R v S ln) (hlo : lo ≤ w.heap.size) (hl : S.length ≤ 500) (hne : nEd (secsO S) ≤ 20000) (hm : Mx w) (hs : Syn w) (hQ : SeqAt w) (he : Sents w A) :
    Calls Tryz.prog 63 #[.pointer (some ⟨R, 0, none⟩), .bool ad, .string t] w fun e w' => TkA A lo R ln w' (edS (secsO S) ad t.data.toList) e ∧ Below R w w' := by
  have hRs := hr.size
  have hRlo := hr.lt
  have HRB := hid0 hr
  have HE : Hid (∀ W, Below w.heap.size w W → Sents W A) := hid0 (fun W hW => he.below hW)
  have HTl := hid0 (fun W => strimL_any t W)
  have hle : (Lib.trimLeftS t.data.toList [32, 9]).length ≤ t.size := by
    have := dropWhile_le ([32, 9].contains ·) t.data.toList
    rw [bsize] at this
    exact this
  have HRd0 : Hid (∀ W, Below w.heap.size w W → Calls Tryz.prog 91 #[.string (strOf (Lib.trimLeftS t.data.toList [32, 9]))] W fun e w' => RsA A W w' (pntsOf (Lib.trimLeftS t.data.toList [32, 9])) e ∧ Below W.heap.size W w') := hid0 (fun W hW => by
    have h := readPoints_any A (strOf (Lib.trimLeftS t.data.toList [32, 9])) (by rw [strOf_size]; omega) W (hm.below hW) (hs.below hW) (hQ.later hW) (he.below hW)
    rw [strOf_data] at h
    exact h)
  unfold edS
  have hpl := fun ps => pnts_len (Lib.trimLeftS t.data.toList [32, 9]).length (Lib.trimLeftS t.data.toList [32, 9]) ps (Nat.le_refl _)
  generalize Lib.trimLeftS t.data.toList [32, 9] = l1 at *
  generalize strOf l1 = T1 at *
  clear hm hs hQ he hr
  cases hpt : pntsOf l1 with
  | none =>
    have HRd := HRd0
    rw [hpt] at HRd
    unfold RsA Gives at HRd
    simp only at HRd ⊢
    unfold TkA Gives
    clear HRd0 hpl hpt
    go_enter Tryz.func63, Tryz.ntmps63
    go_wp2_with (first
      | (go_at_call 89; refine (HTl.out _).mono ?_; rintro e w1 ⟨rfl, hb1⟩; have HB1 := hid0 hb1; clear hb1)
      | (go_at_call 91; refine (HRd.out _ HB1.out).mono ?_; rintro e w2 ⟨rfl, hb2⟩; have HB2 := hid0 (Below.later HB1.out hb2); clear hb2)
      | fail)
    exact ⟨rfl, ⟨rfl, HRB.out.told HB2.out⟩, lowB HB2.out (by omega)⟩
  | some ps =>
    have hpm := hpl ps hpt
    have htl : (toI ps).length = ps.length := by simp [toI]
    have HRd : Hid (∀ W, Below w.heap.size w W → Calls Tryz.prog 91 #[.string T1] W fun e w' => ∃ a c, e = .returned (.slice a ps.length c) ∧ PA w' a (toI ps) ∧ Below W.heap.size W w') := hid0 (fun W hW => by
      refine (HRd0.out W hW).mono ?_
      rintro e w' ⟨h, hb⟩
      rw [hpt] at h
      obtain ⟨v, rfl, ho⟩ := h
      obtain ⟨a, c, rfl, hp⟩ := ho.pa
      rw [htl]
      exact ⟨a, c, rfl, hp, hb⟩)
    have HEn0 : Hid (∀ W a c, Below w.heap.size w W → PA W a (toI ps) → Calls Tryz.prog 92 #[.slice a ps.length c] W fun e w' => e = .returned (encVal (toI ps) (.iface 216 (.pointer (some (A 0))))) ∧ Below W.heap.size W w') := hid0 (fun W a c hW ha => by
      have h := encode_any (toI ps) a c (A 0) (by rw [htl]; omega) W ha (HE.out W hW).c0
      rw [htl] at h
      exact h)
    simp only
    have e8 : (⟨(encAll (toI ps)).toArray⟩ : ByteArray) = strOf (encAll (toI ps)) := rfl
    clear HRd0 hpl hpt htl
    have hm2 : ps.length ≤ 4194400 := by omega
    cases hsc : (toI ps).all scalarP with
    | false =>
      rw [if_neg (by simp)]
      have HEn := HEn0
      unfold encVal at HEn
      rw [hsc] at HEn
      simp only [Bool.false_eq_true, if_false] at HEn
      unfold TkA Gives
      clear HEn0 hsc
      generalize toI ps = is at *
      generalize ps.length = m at *
      go_enter Tryz.func63, Tryz.ntmps63
      go_wp2_with (first
        | (go_at_call 89; refine (HTl.out _).mono ?_; rintro e w1 ⟨rfl, hb1⟩; have HB1 := hid0 hb1; clear hb1)
        | (go_at_call 91; refine (HRd.out _ HB1.out).mono ?_; rintro e w2 ⟨a2, c2, rfl, hp2, hb2⟩; have HP2 := hid0 hp2; have HB2 := hid0 (Below.later HB1.out hb2); clear hp2 hb2)
        | (go_at_call 92; refine (HEn.out _ _ _ HB2.out HP2.out).mono ?_; rintro e w3 ⟨rfl, hb3⟩; have HB3 := hid0 (Below.later HB2.out hb3); clear hb3)
        | fail)
      have e3 := (HE.out _ HB3.out).c1
      refine wp_region_still_tail 8 (by kernel_rfl) (by kernel_rfl) ?_
      simp only [List.take_succ_cons, List.take_zero, List.drop_succ_cons, List.drop_zero]
      repeat still_step
      refine wpStill_nil ?_
      go_wp2_with (go_at_call 87; refine (need_fb _ _ _ _ (by first | rfl | assumption)).mono ?_; rintro e w9 ⟨rfl, hw9⟩; subst hw9)
      exact ⟨rfl, ⟨rfl, HRB.out.told (drewN_keeps HB3.out 1)⟩, lowB (drewN_keeps HB3.out 1) (by omega)⟩
    | true =>
      have HEn := HEn0
      unfold encVal at HEn
      rw [hsc] at HEn
      simp only [if_true] at HEn
      rw [e8] at HEn
      clear HEn0 hsc e8
      generalize strOf (encAll (toI ps)) = E at *
      generalize toI ps = is at *
      by_cases h0 : 0 < ps.length
      · rw [if_pos ⟨rfl, h0⟩]
        have h0I : (0 : Int) < (ps.length : Int) := by omega
        have hd0 : decide ((0 : Int) < (ps.length : Int)) = true := decide_eq_true h0I
        generalize ps.length = m at *
        by_cases hS : S = []
        · subst hS
          simp only [secsO, List.map_nil, List.getLast?_nil]
          obtain ⟨a, c, rfl, hcap⟩ := HRB.out.form
          have HSc : Hid (∀ W, Below w.heap.size w W → Calls Tryz.prog 90 #[.pointer (some ⟨R, 0, none⟩)] W fun e w' => Gives A 1 e ∧ ∃ q, w' = W.drewN q) := hid0 (fun W hW => section_bad A W R c a (HRB.out.later hW).cells.2.1 (HE.out W hW).c1)
          unfold Gives at HSc
          unfold TkA Gives
          go_enter Tryz.func63, Tryz.ntmps63
          go_wp2_with (first
            | (go_at_call 89; refine (HTl.out _).mono ?_; rintro e w1 ⟨rfl, hb1⟩; have HB1 := hid0 hb1; clear hb1)
            | (go_at_call 91; refine (HRd.out _ HB1.out).mono ?_; rintro e w2 ⟨a2, c2, rfl, hp2, hb2⟩; have HP2 := hid0 hp2; have HB2 := hid0 (Below.later HB1.out hb2); clear hp2 hb2)
            | (go_at_call 92; refine (HEn.out _ _ _ HB2.out HP2.out).mono ?_; rintro e w3 ⟨rfl, hb3⟩; have HB3 := hid0 (Below.later HB2.out hb3); clear hb3)
            | fail)
          have e3 := (HE.out _ HB3.out).c1
          go_quiet ((go_at_call 87; exact Calls.quiet_of_same (need_tb _ _ _ (by first | rfl | assumption))))
          have HB4 : Hid (Below w.heap.size w (w3.drewN nq)) := hid0 (drewN_keeps HB3.out nq)
          generalize w3.drewN nq = W4 at *
          go_wp2_with (first
            | (go_at_call 90; refine (HSc.out _ HB4.out).mono ?_; rintro e w5 ⟨rfl, q5, hw5⟩; subst hw5; have HB5 := hid0 (drewN_keeps HB4.out q5))
            | fail)
          exact ⟨rfl, ⟨rfl, HRB.out.told HB5.out⟩, lowB HB5.out (by omega)⟩
        · obtain ⟨P, x, rfl⟩ := snocO hS
          clear hS
          obtain ⟨q1, q2⟩ := last_secs P x
          rw [q1, q2]
          simp only
          clear q1 q2
          have hlen : (P ++ [x]).length = P.length + 1 := by simp
          obtain ⟨g, cap, hv, hga, hgb, hgc⟩ := own_form HRB.out.sec (by omega)
          rw [hlen] at hv hl
          subst hv
          have HSc : Hid (∀ W, Below w.heap.size w W → Calls Tryz.prog 90 #[.pointer (some ⟨R, 0, none⟩)] W fun e w' => e = .returned (.pointer (some ⟨g, P.length * 3, none⟩)) ∧ ∃ q, w' = W.drewN q) := hid0 (fun W hW => section_ok W R g P.length cap _ (HRB.out.later hW).cells.2.1 (by omega) (HE.out W hW).c1)
          have HL : Hid (∀ W, Below w.heap.size w W → W.cell? ⟨R, 2, none⟩ = some (.int .i64 ((nEd (secsO (P ++ [x])) : Nat) : Int)) ∧ Sents W A) := hid0 (fun W hW => ⟨(HRB.out.later hW).cells.2.2.1, HE.out W hW⟩)
          have HTo : Hid (∀ W, Below w.heap.size w W → ∃ v n, W.heap[R]? = some (.cells #[.int .i64 (ln : Int), v, n] 57 (0, 0))) := hid0 (fun W hW => HRB.out.told hW)
          by_cases h3 : m ≤ 32
          · have h3I : (m : Int) ≤ 32 := by omega
            have hd3 : decide ((m : Int) ≤ 32) = true := decide_eq_true h3I
            by_cases h4 : nEd (secsO (P ++ [x])) < 20000
            · rw [if_pos ⟨h3, h4⟩]
              have h4I : ((nEd (secsO (P ++ [x])) : Nat) : Int) < 20000 := by omega
              have hd4 : decide (((nEd (secsO (P ++ [x])) : Nat) : Int) < 20000) = true := decide_eq_true h4I
              have HLo : Hid (∀ ev', secsO P ++ [⟨x.s.loc, x.s.par, x.s.ed ++ [(ad, E)]⟩] = secsO (P ++ [(⟨⟨x.s.loc, x.s.par, x.s.ed ++ [(ad, E)]⟩, ev'⟩ : SecO)])) := hid0 (fun ev' => by rw [secsO_snoc])
              obtain ⟨ae, ce, hev, _⟩ := (HRB.out.ed x (by simp)).ea
              have hel : x.s.ed.length ≤ 20000 := by
                have h := nEd_snoc (secsO P) x.s
                rw [secsO_snoc] at hne
                omega
              have HLa : Hid (∀ W, Below w.heap.size w W → W.cell? ⟨g, P.length * 3 + 2, none⟩ = some (.slice ae x.s.ed.length ce) ∧ W.frozen? ⟨g, P.length * 3 + 2, none⟩ = false) := hid0 (fun W hW => by
                obtain ⟨_, _, c2, c3⟩ := (HRB.out.later hW).last
                exact ⟨by rw [c2, hev], c3 _⟩)
              unfold TkA
              go_enter Tryz.func63, Tryz.ntmps63
              go_wp2_with (first
                | (go_at_call 89; refine (HTl.out _).mono ?_; rintro e w1 ⟨rfl, hb1⟩; have HB1 := hid0 hb1; clear hb1)
                | (go_at_call 91; refine (HRd.out _ HB1.out).mono ?_; rintro e w2 ⟨a2, c2, rfl, hp2, hb2⟩; have HP2 := hid0 hp2; have HB2 := hid0 (Below.later HB1.out hb2); clear hp2 hb2)
                | (go_at_call 92; refine (HEn.out _ _ _ HB2.out HP2.out).mono ?_; rintro e w3 ⟨rfl, hb3⟩; have HB3 := hid0 (Below.later HB2.out hb3); clear hb3)
                | fail)
              have e3 := (HE.out _ HB3.out).c1
              go_quiet ((go_at_call 87; exact Calls.quiet_of_same (need_tb _ _ _ (by first | rfl | assumption))))
              have HB4 : Hid (Below w.heap.size w (w3.drewN nq)) := hid0 (drewN_keeps HB3.out nq)
              generalize w3.drewN nq = W4 at *
              go_wp2_with (first
                | (go_at_call 90; refine (HSc.out _ HB4.out).mono ?_; rintro e w5 ⟨rfl, q5, hw5⟩; subst hw5; have HB5 := hid0 (drewN_keeps HB4.out q5))
                | fail)
              generalize W4.drewN q5 = W5 at *
              obtain ⟨x1, x2⟩ := HL.out _ HB5.out
              have x3 := x2.c2
              clear x2
              go_quiet ((go_at_call 87; exact Calls.quiet_of_same (need_tb _ _ _ (by first | rfl | assumption))))
              have HB6 : Hid (Below w.heap.size w (W5.drewN nq)) := hid0 (drewN_keeps HB5.out nq)
              generalize W5.drewN nq = W6 at *
              obtain ⟨y1, y2⟩ := HLa.out _ HB6.out
              have HX := hid0 (HRB.out.later HB6.out)
              have hsz := HB6.out.size
              obtain ⟨j0, hj, hy0, hy1, hy2⟩ := info_parts infoEdit
              clear x1 x3
              go_wp2_with (at_builtin; go_loud ((
                have ho := HX.out.ed x (by simp)
                rw [hev] at ho
                refine wpList_append_own_at _ (by rfl) _ _ 36 (by rfl) lo 40 j0 (.agg #[.bool false, .string ⟨#[]⟩]) 2 24 Tryz.underlying36 hj hy0 hy1 hy2 rfl (by decide) (.slice ae x.s.ed.length ce) x.s.ed.length (cellsE x.s.ed) (by rfl) (World.ownsRow.alloc ho _) ⟨_, 0, none⟩ 1 1 [.bool ad, .string E] (by rfl) (by rfl) (cell2_new _ _ _ _) (fun u hu => by simp only [List.mem_cons, List.not_mem_nil, or_false] at hu; rcases hu with rfl | rfl <;> rfl) (by unfold maxLen; omega) (by omega) (by simp; omega) ?_
                intro v8 w8 hown8 hgrow8 _ hat8
                obtain ⟨gq, cap8, rfl, hg8a, hg8b, hg8c⟩ := own_form hown8 (Nat.succ_pos _)
                rw [← hev] at hgrow8 hat8
                have hxg : some g ≠ x.ev.ownBlock := (fun e => HX.out.ne x (by simp) g e.symm rfl)
                have hxR : some R ≠ x.ev.ownBlock := (fun e => by have := (World.ownsRow.lt (HX.out.ed x (by simp)) R e.symm).1; omega)
                have g8 := (hgrow8.block g (by simp; omega) hxg).trans (Below.heap_alloc _ _ g (by omega))
                have r8 := (hgrow8.block R (by simp; omega) hxR).trans (Below.heap_alloc _ _ R (by omega))
                have k1 := (World.cell?_of_block (a := ⟨g, P.length * 3 + 2, none⟩) g8).trans y1
                have k2 := (World.frozen?_of_block (a := ⟨g, P.length * 3 + 2, none⟩) g8).trans y2
                have k3 := (World.cell?_of_block (a := ⟨R, 2, none⟩) ((Below.heap_setCell w8 ⟨g, P.length * 3 + 2, none⟩ (.slice (some ⟨gq, 0, none⟩) (x.s.ed.length + 1) cap8) R (by simp only; omega)).trans r8)).trans HX.out.cells.2.2.1
                have k4 := (World.frozen?_of_block (a := ⟨R, 2, none⟩) ((Below.heap_setCell w8 ⟨g, P.length * 3 + 2, none⟩ (.slice (some ⟨gq, 0, none⟩) (x.s.ed.length + 1) cap8) R (by simp only; omega)).trans r8)).trans (HX.out.cells.2.2.2 2)
                have HF := hid0 (RB.edit HX.out (fun q _ hq => Below.heap_alloc _ _ q hq) (by simp) hgrow8 hown8 hat8 _ rfl)
                have HLw := hid0 (((((lowB HB6.out (Nat.le_of_lt hRs)).alloc (by omega) _).grown hgrow8 (by simp; omega) (fun q hq => by have := (World.ownsRow.lt (HX.out.ed x (by simp)) q hq).1; omega)).setCell (p := ⟨g, P.length * 3 + 2, none⟩) (by simp only; omega) (.slice (some ⟨gq, 0, none⟩) (x.s.ed.length + 1) cap8)).setCell (p := ⟨R, 2, none⟩) (Nat.le_refl _) (.int .i64 (((nEd (secsO (P ++ [x])) : Nat) : Int) + 1)))
                clear hown8 hgrow8 hat8 y1 y2 g8 r8 hg8a hg8b hg8c hxg hxR ho)))
              go_end0
              exact ⟨⟨rfl, _, _, (HLo.out _).symm, HF.out⟩, HLw.out⟩
            · rw [if_neg (by omega)]
              have h4I : ¬ ((nEd (secsO (P ++ [x])) : Nat) : Int) < 20000 := by omega
              have hd4 : decide (((nEd (secsO (P ++ [x])) : Nat) : Int) < 20000) = false := decide_eq_false h4I
              unfold TkA Gives
              generalize nEd (secsO (P ++ [x])) = ne at *
              go_enter Tryz.func63, Tryz.ntmps63
              go_wp2_with (first
                | (go_at_call 89; refine (HTl.out _).mono ?_; rintro e w1 ⟨rfl, hb1⟩; have HB1 := hid0 hb1; clear hb1)
                | (go_at_call 91; refine (HRd.out _ HB1.out).mono ?_; rintro e w2 ⟨a2, c2, rfl, hp2, hb2⟩; have HP2 := hid0 hp2; have HB2 := hid0 (Below.later HB1.out hb2); clear hp2 hb2)
                | (go_at_call 92; refine (HEn.out _ _ _ HB2.out HP2.out).mono ?_; rintro e w3 ⟨rfl, hb3⟩; have HB3 := hid0 (Below.later HB2.out hb3); clear hb3)
                | fail)
              have e3 := (HE.out _ HB3.out).c1
              go_quiet ((go_at_call 87; exact Calls.quiet_of_same (need_tb _ _ _ (by first | rfl | assumption))))
              have HB4 : Hid (Below w.heap.size w (w3.drewN nq)) := hid0 (drewN_keeps HB3.out nq)
              generalize w3.drewN nq = W4 at *
              go_wp2_with (first
                | (go_at_call 90; refine (HSc.out _ HB4.out).mono ?_; rintro e w5 ⟨rfl, q5, hw5⟩; subst hw5; have HB5 := hid0 (drewN_keeps HB4.out q5))
                | fail)
              generalize W4.drewN q5 = W5 at *
              obtain ⟨x1, x2⟩ := HL.out _ HB5.out
              have x3 := x2.c2
              clear x2
              refine wp_region_still_tail 11 (by kernel_rfl) (by kernel_rfl) ?_
              simp only [List.take_succ_cons, List.take_zero, List.drop_succ_cons, List.drop_zero]
              repeat still_step
              refine wpStill_nil ?_
              go_wp2_with (go_at_call 87; refine (need_fb _ _ _ _ (by first | rfl | assumption)).mono ?_; rintro e w9 ⟨rfl, hw9⟩; subst hw9)
              exact ⟨rfl, ⟨rfl, HTo.out _ (drewN_keeps HB5.out 1)⟩, lowB (drewN_keeps HB5.out 1) (by omega)⟩
          · rw [if_neg (by omega)]
            have h3I : ¬ (m : Int) ≤ 32 := by omega
            have hd3 : decide ((m : Int) ≤ 32) = false := decide_eq_false h3I
            unfold TkA Gives
            generalize nEd (secsO (P ++ [x])) = ne at *
            go_enter Tryz.func63, Tryz.ntmps63
            go_wp2_with (first
              | (go_at_call 89; refine (HTl.out _).mono ?_; rintro e w1 ⟨rfl, hb1⟩; have HB1 := hid0 hb1; clear hb1)
              | (go_at_call 91; refine (HRd.out _ HB1.out).mono ?_; rintro e w2 ⟨a2, c2, rfl, hp2, hb2⟩; have HP2 := hid0 hp2; have HB2 := hid0 (Below.later HB1.out hb2); clear hp2 hb2)
              | (go_at_call 92; refine (HEn.out _ _ _ HB2.out HP2.out).mono ?_; rintro e w3 ⟨rfl, hb3⟩; have HB3 := hid0 (Below.later HB2.out hb3); clear hb3)
              | fail)
            have e3 := (HE.out _ HB3.out).c1
            go_quiet ((go_at_call 87; exact Calls.quiet_of_same (need_tb _ _ _ (by first | rfl | assumption))))
            have HB4 : Hid (Below w.heap.size w (w3.drewN nq)) := hid0 (drewN_keeps HB3.out nq)
            generalize w3.drewN nq = W4 at *
            go_wp2_with (first
              | (go_at_call 90; refine (HSc.out _ HB4.out).mono ?_; rintro e w5 ⟨rfl, q5, hw5⟩; subst hw5; have HB5 := hid0 (drewN_keeps HB4.out q5))
              | fail)
            generalize W4.drewN q5 = W5 at *
            obtain ⟨x1, x2⟩ := HL.out _ HB5.out
            have x3 := x2.c2
            clear x2
            refine wp_region_still_tail 11 (by kernel_rfl) (by kernel_rfl) ?_
            simp only [List.take_succ_cons, List.take_zero, List.drop_succ_cons, List.drop_zero]
            repeat still_step
            refine wpStill_nil ?_
            go_wp2_with (go_at_call 87; refine (need_fb _ _ _ _ (by first | rfl | assumption)).mono ?_; rintro e w9 ⟨rfl, hw9⟩; subst hw9)
            exact ⟨rfl, ⟨rfl, HTo.out _ (drewN_keeps HB5.out 1)⟩, lowB (drewN_keeps HB5.out 1) (by omega)⟩
      · rw [if_neg (fun h => h0 h.2)]
        have h0I : ¬ (0 : Int) < (ps.length : Int) := by omega
        have hd0 : decide ((0 : Int) < (ps.length : Int)) = false := decide_eq_false h0I
        unfold TkA Gives
        generalize ps.length = m at *
        go_enter Tryz.func63, Tryz.ntmps63
        go_wp2_with (first
          | (go_at_call 89; refine (HTl.out _).mono ?_; rintro e w1 ⟨rfl, hb1⟩; have HB1 := hid0 hb1; clear hb1)
          | (go_at_call 91; refine (HRd.out _ HB1.out).mono ?_; rintro e w2 ⟨a2, c2, rfl, hp2, hb2⟩; have HP2 := hid0 hp2; have HB2 := hid0 (Below.later HB1.out hb2); clear hp2 hb2)
          | (go_at_call 92; refine (HEn.out _ _ _ HB2.out HP2.out).mono ?_; rintro e w3 ⟨rfl, hb3⟩; have HB3 := hid0 (Below.later HB2.out hb3); clear hb3)
          | fail)
        have e3 := (HE.out _ HB3.out).c1
        refine wp_region_still_tail 8 (by kernel_rfl) (by kernel_rfl) ?_
        simp only [List.take_succ_cons, List.take_zero, List.drop_succ_cons, List.drop_zero]
        repeat still_step
        refine wpStill_nil ?_
        go_wp2_with (go_at_call 87; refine (need_fb _ _ _ _ (by first | rfl | assumption)).mono ?_; rintro e w9 ⟨rfl, hw9⟩; subst hw9)
        exact ⟨rfl, ⟨rfl, HRB.out.told (drewN_keeps HB3.out 1)⟩, lowB (drewN_keeps HB3.out 1) (by omega)⟩
end Go.Proofs.YtlfeiadgahdgoaaGreatDoor
namespace Go.Proofs.YtlfeiadgahdgoaaGreatDoor
open Go.RowKit Go.Shelf Go.Lib
set_option maxRecDepth 10000 in
theorem take1_any (A : Nat → Addr) (t : ByteArray) (ht : t.size ≤ 4194400) (w : World) (lo R B ln : Nat) (v : Value) (S : List SecO) (hB : w.cell? ⟨B, 0, none⟩ = some (.pointer (some ⟨R, 0, none⟩))) (hr : RB w lo R v S ln) (hlo : lo ≤ w.heap.size) (hl : S.length ≤ 500) (hne : nEd (secsO S) ≤ 20000) (hm : Mx w) (hs : Syn w) (hQ : SeqAt w) (he : Sents w A) :
    Calls Tryz.prog 62 #[.string t, .pointer (some ⟨B, 0, none⟩)] w fun e w' => TkA A lo R ln w' (edS (secsO S) true t.data.toList) e ∧ Below R w w' := by
  have HT := hid0 (takeEdit_any A true t ht w lo R ln v S hr hlo hl hne hm hs hQ he)
  generalize edS (secsO S) true t.data.toList = o at *
  cases o with
  | stop i =>
    unfold TkA Gives at HT ⊢
    simp only at HT ⊢
    clear hr hlo hl hne hm hs hQ he ht
    go_enter Tryz.func62, Tryz.ntmps62
    go_wp2_with (go_at_call 63; refine HT.out.mono ?_; rintro e w1 ⟨⟨rfl, h1⟩, hb1⟩; have HH := hid0 h1; have HB := hid0 hb1; clear h1 hb1)
    exact ⟨rfl, ⟨rfl, HH.out⟩, HB.out⟩
  | go S' =>
    unfold TkA at HT ⊢
    simp only at HT ⊢
    clear hr hlo hl hne hm hs hQ he ht
    go_enter Tryz.func62, Tryz.ntmps62
    go_wp2_with (go_at_call 63; refine HT.out.mono ?_; rintro e w1 ⟨⟨rfl, h1⟩, hb1⟩; have HH := hid0 h1; have HB := hid0 hb1; clear h1 hb1)
    go_end0
    exact ⟨⟨rfl, HH.out⟩, HB.out⟩
set_option maxRecDepth 10000 in
theorem take2_any (A : Nat → Addr) (t : ByteArray) (ht : t.size ≤ 4194400) (w : World) (lo R B ln : Nat) (v : Value) (S : List SecO) (hB : w.cell? ⟨B, 0, none⟩ = some (.pointer (some ⟨R, 0, none⟩))) (hr : RB w lo R v S ln) (hlo : lo ≤ w.heap.size) (hl : S.length ≤ 500) (hne : nEd (secsO S) ≤ 20000) (hm : Mx w) (hs : Syn w) (hQ : SeqAt w) (he : Sents w A) :
    Calls Tryz.prog 64 #[.string t, .pointer (some ⟨B, 0, none⟩)] w fun e w' => TkA A lo R ln w' (edS (secsO S) false t.data.toList) e ∧ Below R w w' := by
  have HT := hid0 (takeEdit_any A false t ht w lo R ln v S hr hlo hl hne hm hs hQ he)
  generalize edS (secsO S) false t.data.toList = o at *
  cases o with
  | stop i =>
    unfold TkA Gives at HT ⊢
    simp only at HT ⊢
    clear hr hlo hl hne hm hs hQ he ht
    go_enter Tryz.func64, Tryz.ntmps64
    go_wp2_with (go_at_call 63; refine HT.out.mono ?_; rintro e w1 ⟨⟨rfl, h1⟩, hb1⟩; have HH := hid0 h1; have HB := hid0 hb1; clear h1 hb1)
    exact ⟨rfl, ⟨rfl, HH.out⟩, HB.out⟩
  | go S' =>
    unfold TkA at HT ⊢
    simp only at HT ⊢
    clear hr hlo hl hne hm hs hQ he ht
    go_enter Tryz.func64, Tryz.ntmps64
    go_wp2_with (go_at_call 63; refine HT.out.mono ?_; rintro e w1 ⟨⟨rfl, h1⟩, hb1⟩; have HH := hid0 h1; have HB := hid0 hb1; clear h1 hb1)
    go_end0
    exact ⟨⟨rfl, HH.out⟩, HB.out⟩
set_option maxRecDepth 10000 in
set_option maxHeartbeats 3200000 in
theorem take_core (A : Nat → Addr) (t : ByteArray) (w : World) (lo R ln : Nat) (hR : R < w.heap.size) (b0 b1 b2 b3 : Bool) (T0 T1 T2 T3 : ByteArray) (o0 o1 o2 o3 O : Stp) (hne : (t.toList == []) = false)
    (HC0 : Hid (∀ W, Calls Tryz.prog 65 #[.string t, .string ⟨#[91]⟩] W fun e w' => e = .returned (.tuple #[.string T0, .bool b0]) ∧ w' = W))
    (HC1 : Hid (∀ W, Calls Tryz.prog 65 #[.string t, .string ⟨#[112, 97, 114, 101, 110, 116]⟩] W fun e w' => e = .returned (.tuple #[.string T1, .bool b1]) ∧ w' = W))
    (HC2 : Hid (∀ W, Calls Tryz.prog 65 #[.string t, .string ⟨#[43]⟩] W fun e w' => e = .returned (.tuple #[.string T2, .bool b2]) ∧ w' = W))
    (HC3 : Hid (∀ W, Calls Tryz.prog 65 #[.string t, .string ⟨#[45]⟩] W fun e w' => e = .returned (.tuple #[.string T3, .bool b3]) ∧ w' = W))
    (H0 : Hid (∀ W, Below w.heap.size w W → Calls Tryz.prog 60 #[.pointer (some ⟨R, 0, none⟩), .string T0] W fun e w' => TkA A lo R ln w' o0 e ∧ Below R W w'))
    (H1 : Hid (∀ W, Below w.heap.size w W → Calls Tryz.prog 61 #[.pointer (some ⟨R, 0, none⟩), .string T1] W fun e w' => TkA A lo R ln w' o1 e ∧ Below R W w'))
    (H2 : Hid (∀ W, Below w.heap.size w W → W.cell? ⟨w.heap.size, 0, none⟩ = some (.pointer (some ⟨R, 0, none⟩)) → Calls Tryz.prog 62 #[.string T2, .pointer (some ⟨w.heap.size, 0, none⟩)] W fun e w' => TkA A lo R ln w' o2 e ∧ Below R W w'))
    (H3 : Hid (∀ W, Below w.heap.size w W → W.cell? ⟨w.heap.size, 0, none⟩ = some (.pointer (some ⟨R, 0, none⟩)) → Calls Tryz.prog 64 #[.string T3, .pointer (some ⟨w.heap.size, 0, none⟩)] W fun e w' => TkA A lo R ln w' o3 e ∧ Below R W w'))
    (HE : Hid (∀ W, Below w.heap.size w W → W.cell? ⟨1, 0, none⟩ = some (.iface 216 (.pointer (some (A 1))))))
    (HTo : Hid (∀ W, Below w.heap.size w W → ∃ v n, W.heap[R]? = some (.cells #[.int .i64 (ln : Int), v, n] 57 (0, 0))))
    (HO : Hid ((b0 = true → O = o0) ∧ (b0 = false → b1 = true → O = o1) ∧ (b0 = false → b1 = false → b2 = true → O = o2) ∧ (b0 = false → b1 = false → b2 = false → b3 = true → O = o3) ∧ (b0 = false → b1 = false → b2 = false → b3 = false → O = .stop 1))) :
    Calls Tryz.prog 39 #[.pointer (some ⟨R, 0, none⟩), .string t] w fun e w' => TkA A lo R ln w' O e ∧ Below R w w' := by
  have i0 : ∀ W, (Instr.index 102 (.agg #[.string ⟨#[91]⟩, .func (.func 60) #[.pointer (some ⟨R, 0, none⟩)] #[], .string ⟨#[112, 97, 114, 101, 110, 116]⟩, .func (.func 61) #[.pointer (some ⟨R, 0, none⟩)] #[], .string ⟨#[43]⟩, .func (.func 62) #[] #[.pointer (some ⟨w.heap.size, 0, none⟩)], .string ⟨#[45]⟩, .func (.func 64) #[] #[.pointer (some ⟨w.heap.size, 0, none⟩)]]) (.int .i64 0)).run Tryz.prog W = .ok (.agg #[.string ⟨#[91]⟩, .func (.func 60) #[.pointer (some ⟨R, 0, none⟩)] #[]]) W := fun _ => by kernel_rfl
  have i1 : ∀ W, (Instr.index 102 (.agg #[.string ⟨#[91]⟩, .func (.func 60) #[.pointer (some ⟨R, 0, none⟩)] #[], .string ⟨#[112, 97, 114, 101, 110, 116]⟩, .func (.func 61) #[.pointer (some ⟨R, 0, none⟩)] #[], .string ⟨#[43]⟩, .func (.func 62) #[] #[.pointer (some ⟨w.heap.size, 0, none⟩)], .string ⟨#[45]⟩, .func (.func 64) #[] #[.pointer (some ⟨w.heap.size, 0, none⟩)]]) (.int .i64 1)).run Tryz.prog W = .ok (.agg #[.string ⟨#[112, 97, 114, 101, 110, 116]⟩, .func (.func 61) #[.pointer (some ⟨R, 0, none⟩)] #[]]) W := fun _ => by kernel_rfl
  have i2 : ∀ W, (Instr.index 102 (.agg #[.string ⟨#[91]⟩, .func (.func 60) #[.pointer (some ⟨R, 0, none⟩)] #[], .string ⟨#[112, 97, 114, 101, 110, 116]⟩, .func (.func 61) #[.pointer (some ⟨R, 0, none⟩)] #[], .string ⟨#[43]⟩, .func (.func 62) #[] #[.pointer (some ⟨w.heap.size, 0, none⟩)], .string ⟨#[45]⟩, .func (.func 64) #[] #[.pointer (some ⟨w.heap.size, 0, none⟩)]]) (.int .i64 2)).run Tryz.prog W = .ok (.agg #[.string ⟨#[43]⟩, .func (.func 62) #[] #[.pointer (some ⟨w.heap.size, 0, none⟩)]]) W := fun _ => by kernel_rfl
  have i3 : ∀ W, (Instr.index 102 (.agg #[.string ⟨#[91]⟩, .func (.func 60) #[.pointer (some ⟨R, 0, none⟩)] #[], .string ⟨#[112, 97, 114, 101, 110, 116]⟩, .func (.func 61) #[.pointer (some ⟨R, 0, none⟩)] #[], .string ⟨#[43]⟩, .func (.func 62) #[] #[.pointer (some ⟨w.heap.size, 0, none⟩)], .string ⟨#[45]⟩, .func (.func 64) #[] #[.pointer (some ⟨w.heap.size, 0, none⟩)]]) (.int .i64 3)).run Tryz.prog W = .ok (.agg #[.string ⟨#[45]⟩, .func (.func 64) #[] #[.pointer (some ⟨w.heap.size, 0, none⟩)]]) W := fun _ => by kernel_rfl
  go_enter Tryz.func39, Tryz.ntmps39
  go_wp2
  go_loopw [23] (fun vi wr => ∃ k : Nat, vi = .int .i64 (k : Int) ∧ k ≤ 4 ∧ Hid ((1 ≤ k → b0 = false) ∧ (2 ≤ k → b1 = false) ∧ (3 ≤ k → b2 = false) ∧ (4 ≤ k → b3 = false)) ∧ Hid (Below w.heap.size w wr) ∧ Hid (wr.cell? ⟨w.heap.size, 0, none⟩ = some (.pointer (some ⟨R, 0, none⟩))) ∧ w.heap.size < wr.heap.size) (fun vi _ => 4 - (intOf vi).toNat)
  case atStart =>
    refine ⟨0, rfl, by omega, hid0 ⟨fun h => absurd h (by omega), fun h => absurd h (by omega), fun h => absurd h (by omega), fun h => absurd h (by omega)⟩, hid0 ?_, hid0 ?_, by simp; omega⟩
    · go_grown
    · rw [World.cell?_of_block (Below.heap_alloc _ _ w.heap.size (by simp))]
      exact cell_one_new _ _ _ 0 _ rfl
  case round =>
    obtain ⟨k, rfl, hk, HK, HB, HX, hsz⟩ := hrel
    have hR2 : R ≤ w.heap.size := by omega
    rcases (by omega : k = 0 ∨ k = 1 ∨ k = 2 ∨ k = 3 ∨ k = 4) with rfl | rfl | rfl | rfl | rfl
    · rcases Bool.eq_false_or_eq_true b0 with hb | hb
      · have HO2 := hid0 (HO.out.1  hb)
        have HCk := HC0
        rw [hb] at HCk
        obtain ⟨wk, hwk⟩ : ∃ wk, wk = wr.alloc (.cells #[.string ⟨#[91]⟩, .func (.func 60) #[.pointer (some ⟨R, 0, none⟩)] #[]] 100) := ⟨_, rfl⟩
        have HBk : Hid (Below w.heap.size w wk) := hid0 (by rw [hwk]; exact HB.out.alloc (by omega) _)
        have HX2 : Hid (wk.cell? ⟨w.heap.size, 0, none⟩ = some (.pointer (some ⟨R, 0, none⟩))) := hid0 (by rw [hwk, World.cell?_of_block (Below.heap_alloc _ _ w.heap.size hsz)]; exact HX.out)
        have HR := hid0 (H0.out wk HBk.out)
        rw [hwk] at HR
        have HBr := hid0 (lowB HBk.out hR2)
        rw [hwk] at HBr
        clear HC0 HC1 HC2 HC3 H0 H1 H2 H3 hwk HX2 HBk HO
        cases o0 with
        | stop i =>
          unfold TkA Gives at HR
          simp only at HR
          go_wp2_with (first
            | (go_at_call 65; refine (HCk.out _).mono ?_; rintro e w1 ⟨rfl, hw1⟩; have hw1' := hw1.symm; subst hw1'; clear hw1)
            | (go_at_call 60; refine HR.out.mono ?_; rintro e w2 ⟨⟨rfl, h1⟩, hb2⟩; have HH := hid0 h1; have HB2 := hid0 (HBr.out.trans hb2); clear h1 hb2)
            | fail)
          exact ⟨rfl, by rw [HO2.out]; exact ⟨rfl, HH.out⟩, HB2.out⟩
        | go S' =>
          unfold TkA at HR
          simp only at HR
          go_wp2_with (first
            | (go_at_call 65; refine (HCk.out _).mono ?_; rintro e w1 ⟨rfl, hw1⟩; have hw1' := hw1.symm; subst hw1'; clear hw1)
            | (go_at_call 60; refine HR.out.mono ?_; rintro e w2 ⟨⟨rfl, h1⟩, hb2⟩; have HH := hid0 h1; have HB2 := hid0 (HBr.out.trans hb2); clear h1 hb2)
            | fail)
          (try simp only [Exit.inBlock, Exit.then])
          refine bodyPost_ret (results_none rfl _ _ _) rfl ?_
          exact ⟨by rw [HO2.out]; exact ⟨rfl, HH.out⟩, HB2.out⟩
      · have HCk := HC0
        rw [hb] at HCk
        go_wp2_with (go_at_call 65; refine (HCk.out _).mono ?_; rintro e w1 ⟨rfl, hw1⟩; subst hw1)
        go_roundw
        case rel =>
          refine ⟨1, by go_num, by omega, hid0 ⟨fun _ => hb, fun h => absurd h (by omega), fun h => absurd h (by omega), fun h => absurd h (by omega)⟩, hid0 (by have hB := HB.out; go_grown), hid0 ?_, by simp; omega⟩
          rw [World.cell?_of_block (Below.heap_alloc _ _ w.heap.size hsz)]
          exact HX.out
        case measure => simp [intOf]
    · rcases Bool.eq_false_or_eq_true b1 with hb | hb
      · have HO2 := hid0 (HO.out.2.1 (HK.out.1 (by omega)) hb)
        have HCk := HC1
        rw [hb] at HCk
        obtain ⟨wk, hwk⟩ : ∃ wk, wk = wr.alloc (.cells #[.string ⟨#[112, 97, 114, 101, 110, 116]⟩, .func (.func 61) #[.pointer (some ⟨R, 0, none⟩)] #[]] 100) := ⟨_, rfl⟩
        have HBk : Hid (Below w.heap.size w wk) := hid0 (by rw [hwk]; exact HB.out.alloc (by omega) _)
        have HX2 : Hid (wk.cell? ⟨w.heap.size, 0, none⟩ = some (.pointer (some ⟨R, 0, none⟩))) := hid0 (by rw [hwk, World.cell?_of_block (Below.heap_alloc _ _ w.heap.size hsz)]; exact HX.out)
        have HR := hid0 (H1.out wk HBk.out)
        rw [hwk] at HR
        have HBr := hid0 (lowB HBk.out hR2)
        rw [hwk] at HBr
        clear HC0 HC1 HC2 HC3 H0 H1 H2 H3 hwk HX2 HBk HO
        cases o1 with
        | stop i =>
          unfold TkA Gives at HR
          simp only at HR
          go_wp2_with (first
            | (go_at_call 65; refine (HCk.out _).mono ?_; rintro e w1 ⟨rfl, hw1⟩; have hw1' := hw1.symm; subst hw1'; clear hw1)
            | (go_at_call 61; refine HR.out.mono ?_; rintro e w2 ⟨⟨rfl, h1⟩, hb2⟩; have HH := hid0 h1; have HB2 := hid0 (HBr.out.trans hb2); clear h1 hb2)
            | fail)
          exact ⟨rfl, by rw [HO2.out]; exact ⟨rfl, HH.out⟩, HB2.out⟩
        | go S' =>
          unfold TkA at HR
          simp only at HR
          go_wp2_with (first
            | (go_at_call 65; refine (HCk.out _).mono ?_; rintro e w1 ⟨rfl, hw1⟩; have hw1' := hw1.symm; subst hw1'; clear hw1)
            | (go_at_call 61; refine HR.out.mono ?_; rintro e w2 ⟨⟨rfl, h1⟩, hb2⟩; have HH := hid0 h1; have HB2 := hid0 (HBr.out.trans hb2); clear h1 hb2)
            | fail)
          (try simp only [Exit.inBlock, Exit.then])
          refine bodyPost_ret (results_none rfl _ _ _) rfl ?_
          exact ⟨by rw [HO2.out]; exact ⟨rfl, HH.out⟩, HB2.out⟩
      · have HCk := HC1
        rw [hb] at HCk
        go_wp2_with (go_at_call 65; refine (HCk.out _).mono ?_; rintro e w1 ⟨rfl, hw1⟩; subst hw1)
        go_roundw
        case rel =>
          refine ⟨2, by go_num, by omega, hid0 ⟨fun _ => HK.out.1 (by omega), fun _ => hb, fun h => absurd h (by omega), fun h => absurd h (by omega)⟩, hid0 (by have hB := HB.out; go_grown), hid0 ?_, by simp; omega⟩
          rw [World.cell?_of_block (Below.heap_alloc _ _ w.heap.size hsz)]
          exact HX.out
        case measure => simp [intOf]
    · rcases Bool.eq_false_or_eq_true b2 with hb | hb
      · have HO2 := hid0 (HO.out.2.2.1 (HK.out.1 (by omega)) (HK.out.2.1 (by omega)) hb)
        have HCk := HC2
        rw [hb] at HCk
        obtain ⟨wk, hwk⟩ : ∃ wk, wk = wr.alloc (.cells #[.string ⟨#[43]⟩, .func (.func 62) #[] #[.pointer (some ⟨w.heap.size, 0, none⟩)]] 100) := ⟨_, rfl⟩
        have HBk : Hid (Below w.heap.size w wk) := hid0 (by rw [hwk]; exact HB.out.alloc (by omega) _)
        have HX2 : Hid (wk.cell? ⟨w.heap.size, 0, none⟩ = some (.pointer (some ⟨R, 0, none⟩))) := hid0 (by rw [hwk, World.cell?_of_block (Below.heap_alloc _ _ w.heap.size hsz)]; exact HX.out)
        have HR := hid0 (H2.out wk HBk.out HX2.out)
        rw [hwk] at HR
        have HBr := hid0 (lowB HBk.out hR2)
        rw [hwk] at HBr
        clear HC0 HC1 HC2 HC3 H0 H1 H2 H3 hwk HX2 HBk HO
        cases o2 with
        | stop i =>
          unfold TkA Gives at HR
          simp only at HR
          go_wp2_with (first
            | (go_at_call 65; refine (HCk.out _).mono ?_; rintro e w1 ⟨rfl, hw1⟩; have hw1' := hw1.symm; subst hw1'; clear hw1)
            | (go_at_call 62; refine HR.out.mono ?_; rintro e w2 ⟨⟨rfl, h1⟩, hb2⟩; have HH := hid0 h1; have HB2 := hid0 (HBr.out.trans hb2); clear h1 hb2)
            | fail)
          exact ⟨rfl, by rw [HO2.out]; exact ⟨rfl, HH.out⟩, HB2.out⟩
        | go S' =>
          unfold TkA at HR
          simp only at HR
          go_wp2_with (first
            | (go_at_call 65; refine (HCk.out _).mono ?_; rintro e w1 ⟨rfl, hw1⟩; have hw1' := hw1.symm; subst hw1'; clear hw1)
            | (go_at_call 62; refine HR.out.mono ?_; rintro e w2 ⟨⟨rfl, h1⟩, hb2⟩; have HH := hid0 h1; have HB2 := hid0 (HBr.out.trans hb2); clear h1 hb2)
            | fail)
          (try simp only [Exit.inBlock, Exit.then])
          refine bodyPost_ret (results_none rfl _ _ _) rfl ?_
          exact ⟨by rw [HO2.out]; exact ⟨rfl, HH.out⟩, HB2.out⟩
      · have HCk := HC2
        rw [hb] at HCk
        go_wp2_with (go_at_call 65; refine (HCk.out _).mono ?_; rintro e w1 ⟨rfl, hw1⟩; subst hw1)
        go_roundw
        case rel =>
          refine ⟨3, by go_num, by omega, hid0 ⟨fun _ => HK.out.1 (by omega), fun _ => HK.out.2.1 (by omega), fun _ => hb, fun h => absurd h (by omega)⟩, hid0 (by have hB := HB.out; go_grown), hid0 ?_, by simp; omega⟩
          rw [World.cell?_of_block (Below.heap_alloc _ _ w.heap.size hsz)]
          exact HX.out
        case measure => simp [intOf]
    · rcases Bool.eq_false_or_eq_true b3 with hb | hb
      · have HO2 := hid0 (HO.out.2.2.2.1 (HK.out.1 (by omega)) (HK.out.2.1 (by omega)) (HK.out.2.2.1 (by omega)) hb)
        have HCk := HC3
        rw [hb] at HCk
        obtain ⟨wk, hwk⟩ : ∃ wk, wk = wr.alloc (.cells #[.string ⟨#[45]⟩, .func (.func 64) #[] #[.pointer (some ⟨w.heap.size, 0, none⟩)]] 100) := ⟨_, rfl⟩
        have HBk : Hid (Below w.heap.size w wk) := hid0 (by rw [hwk]; exact HB.out.alloc (by omega) _)
        have HX2 : Hid (wk.cell? ⟨w.heap.size, 0, none⟩ = some (.pointer (some ⟨R, 0, none⟩))) := hid0 (by rw [hwk, World.cell?_of_block (Below.heap_alloc _ _ w.heap.size hsz)]; exact HX.out)
        have HR := hid0 (H3.out wk HBk.out HX2.out)
        rw [hwk] at HR
        have HBr := hid0 (lowB HBk.out hR2)
        rw [hwk] at HBr
        clear HC0 HC1 HC2 HC3 H0 H1 H2 H3 hwk HX2 HBk HO
        cases o3 with
        | stop i =>
          unfold TkA Gives at HR
          simp only at HR
          go_wp2_with (first
            | (go_at_call 65; refine (HCk.out _).mono ?_; rintro e w1 ⟨rfl, hw1⟩; have hw1' := hw1.symm; subst hw1'; clear hw1)
            | (go_at_call 64; refine HR.out.mono ?_; rintro e w2 ⟨⟨rfl, h1⟩, hb2⟩; have HH := hid0 h1; have HB2 := hid0 (HBr.out.trans hb2); clear h1 hb2)
            | fail)
          exact ⟨rfl, by rw [HO2.out]; exact ⟨rfl, HH.out⟩, HB2.out⟩
        | go S' =>
          unfold TkA at HR
          simp only at HR
          go_wp2_with (first
            | (go_at_call 65; refine (HCk.out _).mono ?_; rintro e w1 ⟨rfl, hw1⟩; have hw1' := hw1.symm; subst hw1'; clear hw1)
            | (go_at_call 64; refine HR.out.mono ?_; rintro e w2 ⟨⟨rfl, h1⟩, hb2⟩; have HH := hid0 h1; have HB2 := hid0 (HBr.out.trans hb2); clear h1 hb2)
            | fail)
          (try simp only [Exit.inBlock, Exit.then])
          refine bodyPost_ret (results_none rfl _ _ _) rfl ?_
          exact ⟨by rw [HO2.out]; exact ⟨rfl, HH.out⟩, HB2.out⟩
      · have HCk := HC3
        rw [hb] at HCk
        go_wp2_with (go_at_call 65; refine (HCk.out _).mono ?_; rintro e w1 ⟨rfl, hw1⟩; subst hw1)
        go_roundw
        case rel =>
          refine ⟨4, by go_num, by omega, hid0 ⟨fun _ => HK.out.1 (by omega), fun _ => HK.out.2.1 (by omega), fun _ => HK.out.2.2.1 (by omega), fun _ => hb⟩, hid0 (by have hB := HB.out; go_grown), hid0 ?_, by simp; omega⟩
          rw [World.cell?_of_block (Below.heap_alloc _ _ w.heap.size hsz)]
          exact HX.out
        case measure => simp [intOf]
    · have HO2 := hid0 (HO.out.2.2.2.2 (HK.out.1 (by omega)) (HK.out.2.1 (by omega)) (HK.out.2.2.1 (by omega)) (HK.out.2.2.2 (by omega)))
      have e1 := HE.out wr HB.out
      have HT := hid0 (HTo.out wr HB.out)
      have HBr := hid0 (lowB HB.out hR2)
      clear HC0 HC1 HC2 HC3 H0 H1 H2 H3 HO
      go_wp2_with (go_at_call 66; refine (giveUp_any _ _ _).mono ?_; rintro e w1 ⟨rfl, hw1⟩; have hw1' := hw1.symm; subst hw1'; clear hw1)
      exact ⟨rfl, by rw [HO2.out]; exact ⟨rfl, HT.out⟩, HBr.out⟩
set_option maxRecDepth 10000 in
theorem take_nil (A : Nat → Addr) (w : World) (lo R ln : Nat) (v : Value) (S : List SecO) (hr : RB w lo R v S ln) : Calls Tryz.prog 39 #[.pointer (some ⟨R, 0, none⟩), .string ⟨#[]⟩] w fun e w' => TkA A lo R ln w' (.go (secsO S)) e ∧ Below R w w' := by
  have hR := hr.size
  have HB : Hid (Below w.heap.size w (w.alloc (.cells #[.pointer (some ⟨R, 0, none⟩)] 81))) := hid0 ((Below.refl _ _).alloc (Nat.le_refl _) _)
  have HF := hid0 (hr.later HB.out)
  have HL := hid0 (lowB HB.out (Nat.le_of_lt hR))
  clear hr
  unfold TkA
  go_enter Tryz.func39, Tryz.ntmps39
  go_wp2
  (try simp only [Exit.inBlock, Exit.then])
  refine bodyPost_ret (results_none rfl _ _ _) rfl ?_
  exact ⟨⟨rfl, _, _, rfl, HF.out⟩, HL.out⟩
theorem take_any (A : Nat → Addr) (t : ByteArray) (ht : t.size ≤ 4194400) (w : World) (lo R ln : Nat) (v : Value) (S : List SecO) (hr : RB w lo R v S ln) (hlo : lo ≤ w.heap.size) (hl : S.length ≤ 500) (hne : nEd (secsO S) ≤ 20000) (hm : Mx w) (hs : Syn w) (hQ : SeqAt w) (he : Sents w A) :
    Calls Tryz.prog 39 #[.pointer (some ⟨R, 0, none⟩), .string t] w fun e w' => TkA A lo R ln w' (lineS (secsO S) t.data.toList) e ∧ Below R w w' := by
  by_cases h0 : t.data.toList = []
  · have e : t = ⟨#[]⟩ := by
      have h1 : t = strOf t.data.toList := rfl
      rw [h1, h0]
      rfl
    unfold lineS
    rw [if_pos h0, e]
    exact take_nil A w lo R ln v S hr
  · have h1 : (t.toList == []) = false := by
      rw [beq_nil]
      exact decide_eq_false (fun e => h0 (by rw [e]))
    have hsz : ∀ p : List UInt8, (strOf (Lib.trimPrefix t.data.toList p)).size ≤ 4194400 := fun p => by
      have := trimPrefix_le t.data.toList p
      rw [bsize] at this
      rw [strOf_size]
      omega
    have hW : ∀ W, Below w.heap.size w W → lo ≤ W.heap.size := fun W hW => Nat.le_trans hlo hW.size
    have H := take_core A t w lo R ln hr.size (Lib.hasPrefix t.data.toList [91]) (Lib.hasPrefix t.data.toList parW) (Lib.hasPrefix t.data.toList [43]) (Lib.hasPrefix t.data.toList [45]) (strOf (Lib.trimPrefix t.data.toList [91])) (strOf (Lib.trimPrefix t.data.toList parW)) (strOf (Lib.trimPrefix t.data.toList [43])) (strOf (Lib.trimPrefix t.data.toList [45]))
      (headS (secsO S) (Lib.trimPrefix t.data.toList [91])) (parS (secsO S) (Lib.trimPrefix t.data.toList parW)) (edS (secsO S) true (Lib.trimPrefix t.data.toList [43])) (edS (secsO S) false (Lib.trimPrefix t.data.toList [45])) (lineS (secsO S) t.data.toList) h1
      (hid0 (fun W => cutP_any t ⟨#[91]⟩ W)) (hid0 (fun W => cutP_any t ⟨#[112, 97, 114, 101, 110, 116]⟩ W)) (hid0 (fun W => cutP_any t ⟨#[43]⟩ W)) (hid0 (fun W => cutP_any t ⟨#[45]⟩ W))
      (hid0 (fun W h => by have := takeHead_any A (strOf (Lib.trimPrefix t.data.toList [91])) (hsz _) W lo R ln v S (hr.later h) (hW W h) hl (hm.below h) (he.below h); rw [strOf_data] at this; exact this))
      (hid0 (fun W h => by have := takeParent_any A (strOf (Lib.trimPrefix t.data.toList parW)) W lo R ln v S (hr.later h) hl (hm.below h) (he.below h); rw [strOf_data] at this; exact this))
      (hid0 (fun W h hx => by have := take1_any A (strOf (Lib.trimPrefix t.data.toList [43])) (hsz _) W lo R w.heap.size ln v S hx (hr.later h) (hW W h) hl hne (hm.below h) (hs.below h) (hQ.later h) (he.below h); rw [strOf_data] at this; exact this))
      (hid0 (fun W h hx => by have := take2_any A (strOf (Lib.trimPrefix t.data.toList [45])) (hsz _) W lo R w.heap.size ln v S hx (hr.later h) (hW W h) hl hne (hm.below h) (hs.below h) (hQ.later h) (he.below h); rw [strOf_data] at this; exact this))
      (hid0 (fun W h => (he.below h).c1)) (hid0 (fun W h => hr.told h))
      (hid0 (by
        unfold lineS
        rw [if_neg h0]
        refine ⟨fun a => by rw [if_pos a], fun a b => by rw [if_neg (by rw [a]; decide), if_pos b], fun a b c => by rw [if_neg (by rw [a]; decide), if_neg (by rw [b]; decide), if_pos c], fun a b c d => by rw [if_neg (by rw [a]; decide), if_neg (by rw [b]; decide), if_neg (by rw [c]; decide), if_pos d], fun a b c d => by rw [if_neg (by rw [a]; decide), if_neg (by rw [b]; decide), if_neg (by rw [c]; decide), if_neg (by rw [d]; decide)]⟩))
    exact H
end Go.Proofs.YtlfeiadgahdgoaaGreatDoor
