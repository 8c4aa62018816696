/-
  McBM, McBW, McCM, McDM, McDW, McEM, McFM.
-/
import Derived.Test.YtleeedjpccooaaaDoorNdh
namespace Go.Proofs.YtleeedjpccooaaaDoor
open Go.RowKit Go.Shelf
def OwnL (W : World) (lo : Nat) (v : Value) (l : List (Nat × Nat)) : Prop := W.ownsRow lo 127 2 v l.length (cells2 l)
theorem infoLetter : (Tryd.prog.info? 127).map (fun i => (i.zero, i.size, i.bytes)) = some (some (.agg #[.int .i64 0, .int .u64 0]), 2, 16) := by kernel_rfl
structure ApL (w w' : World) (lo : Nat) (v v' : Value) (l : List (Nat × Nat)) : Prop where
  own : OwnL w' lo v' l
  frm : Only w w' (fun k => v.ownBlock = some k)
  at' : ∀ k, v'.ownBlock = some k → v.ownBlock = some k ∨ w.heap.size ≤ k
theorem apL_one {w w2 : World} {lo : Nat} {v v' : Value} {l : List (Nat × Nat)} {x : Nat × Nat} {o : Obj} (hown : w2.ownsRow lo 127 2 v' (l.length + 1) (cells2 l ++ cells2 [x])) (hg : (w.alloc o).grownBy w2 v.ownBlock) (hat : v'.ownBlock = v.ownBlock ∨ v'.ownBlock = some (w.alloc o).heap.size) : ApL w w2 lo v v' (l ++ [x]) := by
  refine ⟨?_, (Only.alloc w o (fun k => v.ownBlock = some k)).trans (Only.ofGrown hg) (fun _ h => .inl h), fun k hk => ?_⟩
  · unfold OwnL
    rw [List.length_append, List.length_singleton, cells2_app]; exact hown
  · rcases hat with e | e
    · exact .inl (by rw [← e]; exact hk)
    · rw [e] at hk
      cases hk
      right
      simp
theorem OwnL.at' {W : World} {lo : Nat} {v : Value} {l : List (Nat × Nat)} (h : OwnL W lo v l) {i : Nat} (hi : i < l.length) : ∃ g c, v = .slice (some ⟨g, 0, none⟩) l.length c ∧ lo ≤ g ∧ g < W.heap.size ∧ W.cell? ⟨g, i * 2, none⟩ = some (.int .i64 ((l[i]).1 : Int)) ∧ W.cell? ⟨g, i * 2 + 1, none⟩ = some (.int .u64 ((l[i]).2 : Int)) := by
  obtain ⟨g, c, rfl, h1, h2, _⟩ := own_form h (by omega)
  obtain ⟨e1, e2⟩ := cells2_at l i hi
  refine ⟨g, c, rfl, h1, h2, ?_, ?_⟩
  · rw [World.ownsRow.cellAt h (i * 2) (by omega), e1]
  · rw [World.ownsRow.cellAt h (i * 2 + 1) (by omega), e2]
theorem OwnL.wda {W : World} {lo n c : Nat} {a : Option Addr} {l : List (Nat × Nat)} (h : OwnL W lo (.slice a n c) l) : WdA W a l := ⟨fun k hk => by
  obtain ⟨g, c', e, _, h2, h3, h4⟩ := h.at' hk
  have e2 : a = some ⟨g, 0, none⟩ := by injection e
  subst e2
  exact ⟨g, 0, rfl, h2, by rw [Nat.zero_add]; exact h3, by rw [Nat.zero_add]; exact h4⟩⟩
theorem OwnL.cap {W : World} {lo n c : Nat} {a : Option Addr} {l : List (Nat × Nat)} (h : OwnL W lo (.slice a n c) l) : l.length ≤ c := by
  rcases h.2 with ⟨e, e2⟩ | ⟨g, cap, cur, e, _, _, h3, _⟩
  · omega
  · simp only [Value.slice.injEq] at e
    omega
theorem rwl_of {W : World} {lo : Nat} {vF vE : Value} {FO : List (List (Nat × Nat))} (h : OwnL W lo vF FO.flatten) (h0 : FO.flatten = [] → vF = .slice none 0 0) (he : OwnI W lo vE (nI (endsN FO))) : RwW W vF vE FO := by
  obtain ⟨a, c, e⟩ := own_sl h
  subst e
  obtain ⟨b, d, e2, h2⟩ := he.ia
  refine ⟨⟨a, c, rfl, h.cap, h.wda, fun q => ?_⟩, b, d, by rw [e2, nI_len, endsN_len], h2⟩
  have h3 := h0 q
  simp only [Value.slice.injEq] at h3
  exact ⟨h3.1, h3.2.2⟩
/-- Letters of places, handed in: what is written to J changes none. -/
structure LtA (w : World) (J : Nat) (a : Option Addr) (LE : List (List Nat)) : Prop where
  at' : ∀ k (h : k < LE.length), ∃ b off, a = some ⟨b, off, none⟩ ∧ b < w.heap.size ∧ b ≠ J ∧ ∃ a1 c1, w.cell? ⟨b, off + k, none⟩ = some (.slice a1 (LE[k]).length c1) ∧ ∀ V : World, Only w V (fun k => k = J) → IA V a1 (nI LE[k])
theorem LtA.drop {w : World} {J : Nat} {b off : Nat} {LE : List (List Nat)} (h : LtA w J (some ⟨b, off, none⟩) LE) (m : Nat) : LtA w J (some ⟨b, off + m, none⟩) (LE.drop m) := ⟨fun k hk => by
  rw [List.length_drop] at hk
  obtain ⟨b', off', e, h1, h2, a1, c1, h3, h4⟩ := h.at' (m + k) (by omega)
  cases e
  refine ⟨b, off + m, rfl, h1, h2, a1, c1, ?_, ?_⟩
  · rw [Nat.add_assoc, List.getElem_drop]; exact h3
  · rw [List.getElem_drop]; exact h4⟩
/-- What is left of the words of symbols, and which letters are written, behind so many. -/
def hzF (mt : List Nat) (H : Nat → Nat) (m : Nat) : Nat → Nat := fun z => if z ∈ mt.take m then 0 else H z
def itF (mt : List Nat) (H : Nat → Nat) (m : Nat) : List (Nat × Nat) := (mt.take m).map fun c => (c, H c)
theorem hzF_zero (mt : List Nat) (H : Nat → Nat) : hzF mt H 0 = H := by funext z; simp [hzF]
theorem itF_zero (mt : List Nat) (H : Nat → Nat) : itF mt H 0 = [] := by simp [itF]
theorem itF_len (mt : List Nat) (H : Nat → Nat) (m : Nat) : (itF mt H m).length ≤ mt.length := by unfold itF; rw [List.length_map, List.length_take]; omega
theorem itF_succ (mt : List Nat) (H : Nat → Nat) {m : Nat} (h : m < mt.length) : itF mt H (m + 1) = itF mt H m ++ [(mt[m], H mt[m])] := by
  unfold itF
  rw [List.take_add_one, List.getElem?_eq_getElem h, Option.toList_some, List.map_append]
  rfl
theorem hzF_succ (mt : List Nat) (H : Nat → Nat) {m : Nat} (h : m < mt.length) : (fun z => if z = mt[m] then 0 else hzF mt H m z) = hzF mt H (m + 1) := by
  funext z
  unfold hzF
  rw [List.take_add_one, List.getElem?_eq_getElem h, Option.toList_some]
  by_cases hz : z = mt[m]
  · rw [if_pos hz, if_pos (List.mem_append.2 (.inr (List.mem_singleton.2 hz)))]
  · rw [if_neg hz]
    by_cases hz2 : z ∈ mt.take m
    · rw [if_pos hz2, if_pos (List.mem_append.2 (.inl hz2))]
    · rw [if_neg hz2, if_neg (fun h => (List.mem_append.1 h).elim hz2 (fun h => hz (List.mem_singleton.1 h)))]
theorem hzF_at (mt : List Nat) (H : Nat → Nat) {m : Nat} (h : m < mt.length) (hn : mt.Nodup) : hzF mt H m mt[m] = H mt[m] := by
  unfold hzF
  rw [if_neg]
  intro hm'
  obtain ⟨j, hj, e⟩ := List.getElem_of_mem hm'
  rw [List.getElem_take] at e
  have hjm : j < m := by rw [List.length_take] at hj; omega
  exact (List.pairwise_iff_getElem.1 hn) j m (by omega) h hjm e
theorem hzF_end (mt : List Nat) (H : Nat → Nat) (h : ∀ c, c ∈ mt ↔ H c ≠ 0) : hzF mt H mt.length = fun _ => 0 := by
  funext z
  unfold hzF
  rw [List.take_length]
  by_cases hz : z ∈ mt
  · rw [if_pos hz]
  · rw [if_neg hz]
    cases Nat.eq_zero_or_pos (H z) with
    | inl e => exact e
    | inr e => exact absurd ((h z).2 (by omega)) hz
/-- What is left of letters. -/
theorem LtA.rest {w : World} {J b off : Nat} {LE : List (List Nat)} (h : LtA w J (some ⟨b, off, none⟩) LE) (m c : Nat) (hc : LE.length ≤ c) : LtA w J (if c = m then some ⟨b, off, none⟩ else some ⟨b, off + m, none⟩) (LE.drop m) := by
  by_cases e : c = m
  · rw [if_pos e]
    exact ⟨fun k hk => by rw [List.length_drop] at hk; omega⟩
  · rw [if_neg e]
    exact h.drop m
/-- While letters are added. -/
structure AlI (w : World) (J sy : Nat) (vO vF vE vZ vP vC vS vA : Value) (G cH : Nat) (H : Nat → Nat) (met : List Nat) (vT : Value) (it : List (Nat × Nat)) (en : List Nat) (W : World) : Prop where
  only : Only w W (fun k => k = J)
  jo : ∃ vL vM, Jb W J sy vO vF vE vL vM vZ vP vC vS vA ∧ OwnL W w.heap.size vL it ∧ OwnI W w.heap.size vM (nI en) ∧ (it = [] → vL = .slice none 0 0) ∧ Apt vM vT
  hv : OwnH W w.heap.size (.slice (some ⟨G, 0, none⟩) sy cH) sy H
  mt : OwnI W w.heap.size vT (nI met)
theorem Jb.setL {W : World} {J sy : Nat} {vO vF vE vL vM vZ vP vC vS vA : Value} (h : Jb W J sy vO vF vE vL vM vZ vP vC vS vA) (v : Value) : Jb (W.setCell ⟨J, 4, none⟩ v) J sy vO vF vE v vM vZ vP vC vS vA := ⟨heap_setCell_same W _ 4 _ _ _ h.r⟩
theorem Jb.kept {W W' : World} {J sy : Nat} {vO vF vE vL vM vZ vP vC vS vA : Value} (h : Jb W J sy vO vF vE vL vM vZ vP vC vS vA) (e : W'.heap[J]? = W.heap[J]?) : Jb W' J sy vO vF vE vL vM vZ vP vC vS vA := ⟨e.trans h.r⟩
section
variable {w W : World} {J sy : Nat} {vO vF vE vZ vP vC vS vA : Value} {G cH : Nat} {H : Nat → Nat} {met : List Nat} {vT : Value} {it : List (Nat × Nat)} {en : List Nat}
theorem AlI.drew (h : AlI w J sy vO vF vE vZ vP vC vS vA G cH H met vT it en W) : AlI w J sy vO vF vE vZ vP vC vS vA G cH H met vT it en W.drew := by
  obtain ⟨vL, vM, h1, h2, h3, h4, h5⟩ := h.jo
  exact ⟨h.only.trans (Only.drewN W 1 _) (fun _ h => .inl h), ⟨vL, vM, h1.kept rfl, own_blk h2 (fun _ _ => rfl), own_blk h3 (fun _ _ => rfl), h4, h5⟩, own_blk h.hv (fun _ _ => rfl), own_blk h.mt (fun _ _ => rfl)⟩
/-- A word of a symbol is written. -/
theorem AlI.putH (h : AlI w J sy vO vF vE vZ vP vC vS vA G cH H met vT it en W) {a : Nat} (ha : a < sy) (y : Nat) : AlI w J sy vO vF vE vZ vP vC vS vA G cH (fun x => if x = a then y else H x) met vT it en (W.setCell ⟨G, a, none⟩ (.int .u64 (y : Int))) := by
  obtain ⟨vL, vM, h1, h2, h3, h4, h5⟩ := h.jo
  have hO := Only.setCell W G a (.int .u64 (y : Int))
  have hG := World.ownsRow.lt h.hv G rfl
  obtain ⟨cs, hcs⟩ := own_typ h.hv (show Value.ownBlock _ = some G from rfl)
  have k : ∀ {t : TypeId} {s n : Nat} {v : Value} {xs : List Value}, W.ownsRow w.heap.size t s v n xs → t ≠ 105 → (W.setCell ⟨G, a, none⟩ (.int .u64 (y : Int))).ownsRow w.heap.size t s v n xs := fun ho ht => own_blk ho (fun k hk => hO.block k (World.ownsRow.lt ho k hk).2 (fun e => own_ne_blk ho hcs ht (e ▸ hk)))
  have hJG : J ≠ G := fun e => by
    have h6 := h1.r
    rw [e, hcs] at h6
    injection h6 with h6
    injection h6 with _ h7
    exact absurd h7 (by decide)
  exact ⟨h.only.trans hO (fun i hi => .inr (by omega)), ⟨vL, vM, h1.kept (hO.block J (Array.getElem?_eq_some_iff.1 h1.r).1 hJG), k h2 (by decide), k h3 (by decide), h4, h5⟩, h.hv.put ha y, k h.mt (by decide)⟩
/-- A symbol more was met. -/
theorem AlI.meet (h : AlI w J sy vO vF vE vZ vP vC vS vA G cH H met vT it en W) {w1 : World} {v1 : Value} {c : Nat} (g : ApG 3 W w1 w.heap.size vT v1 ((nI met).map (Value.int .i64) ++ [Value.int .i64 (c : Int)])) : AlI w J sy vO vF vE vZ vP vC vS vA G cH H (met ++ [c]) v1 it en w1 := by
  obtain ⟨vL, vM, h1, h2, h3, h4, h5⟩ := h.jo
  have m1 := own_ne_blk h.mt h1.r (by decide)
  have k : ∀ {t : TypeId} {s n : Nat} {v : Value} {xs : List Value}, W.ownsRow w.heap.size t s v n xs → Apt v vT → w1.ownsRow w.heap.size t s v n xs := fun ho ha => own_blk ho (fun k hk => g.frm.block k (World.ownsRow.lt ho k hk).2 (ha k hk))
  exact ⟨h.only.trans g.frm (fun i hi => .inr (World.ownsRow.lt h.mt i hi).1), ⟨vL, vM, h1.kept (g.frm.block J (Array.getElem?_eq_some_iff.1 h1.r).1 m1), k h2 (Apt.ofTyp h2 h.mt (by decide)), k h3 h5, h4, (h5.symm.new h3 g.at').symm⟩, k h.hv (Apt.ofTyp h.hv h.mt (by decide)), ownI_of g.own⟩
/-- A letter more is written. -/
theorem AlI.item (h : AlI w J sy vO vF vE vZ vP vC vS vA G cH H met vT it en W) : ∃ a c, W.cell? ⟨J, 4, none⟩ = some (.slice a it.length c) ∧ W.ownsRow w.heap.size 127 2 (.slice a it.length c) it.length (cells2 it) ∧ ∀ (v1 : Value) (w1 : World) (x : Nat × Nat), ApL W w1 w.heap.size (.slice a it.length c) v1 (it ++ [x]) → (w1.cell? ⟨J, 4, none⟩ = some (.slice a it.length c) ∧ w1.frozen? ⟨J, 4, none⟩ = false) ∧ AlI w J sy vO vF vE vZ vP vC vS vA G cH H met vT (it ++ [x]) en (w1.setCell ⟨J, 4, none⟩ v1) := by
  obtain ⟨vL, vM, h1, h2, h3, h4, h5⟩ := h.jo
  obtain ⟨a, c, e⟩ := own_sl h2
  refine ⟨a, c, by rw [← e]; exact h1.c.2.2.2.2.1, by rw [← e]; exact h2, fun v1 w1 x g => ?_⟩
  rw [← e] at g ⊢
  have m1 := own_ne_blk h2 h1.r (by decide)
  have j2 : Jb w1 J sy vO vF vE vL vM vZ vP vC vS vA := h1.kept (g.frm.block J (Array.getElem?_eq_some_iff.1 h1.r).1 m1)
  have m2 := own_ne_blk g.own j2.r (by decide)
  have hO := Only.setCell w1 J 4 v1
  have hA : Only W (w1.setCell ⟨J, 4, none⟩ v1) (fun k => k = J ∨ vL.ownBlock = some k) := (g.frm.mono (fun _ h => .inr h)).trans hO (fun _ h => .inl (.inl h))
  refine ⟨⟨j2.c.2.2.2.2.1, by simp [World.frozen?, j2.r]⟩, h.only.trans hA (fun i hi => hi.imp id (fun e => (World.ownsRow.lt h2 i e).1)), ⟨v1, vM, j2.setL v1, own_blk g.own (fun k hk => hO.block k (World.ownsRow.lt g.own k hk).2 (fun e => m2 (e ▸ hk))), keepRow h3 hA h1.r (by decide) (Apt.ofTyp h3 h2 (by decide)), fun q => by simp at q, h5⟩, keepRow h.hv hA h1.r (by decide) (Apt.ofTyp h.hv h2 (by decide)), keepRow h.mt hA h1.r (by decide) (Apt.ofTyp h.mt h2 (by decide))⟩
/-- The met ones are forgotten. -/
theorem AlI.fresh (h : AlI w J sy vO vF vE vZ vP vC vS vA G cH H met vT it en W) : ∃ a c, vT = .slice a met.length c ∧ (a = none → c = 0) ∧ AlI w J sy vO vF vE vZ vP vC vS vA G cH H [] (.slice a 0 c) it en W := by
  obtain ⟨vL, vM, h1, h2, h3, h4, h5⟩ := h.jo
  obtain ⟨a, c, e⟩ := own_sl h.mt
  have hm := h.mt
  rw [e] at hm
  unfold OwnI at hm
  have hf := own_front hm (Nat.zero_le _)
  have hb : (Value.slice a 0 c).ownBlock = vT.ownBlock := by rw [e]; cases a <;> rfl
  refine ⟨a, c, by rw [e, nI_len], ?_, h.only, ⟨vL, vM, h1, h2, h3, h4, fun k hk => by rw [hb]; exact h5 k hk⟩, h.hv, ?_⟩
  · intro ha
    rcases hm.2 with ⟨e2, _⟩ | ⟨g, cap, cur, e2, _⟩
    · simp only [Value.slice.injEq] at e2; exact e2.2.2
    · simp only [Value.slice.injEq] at e2; rw [ha] at e2; cases e2.1
  · unfold OwnI
    simpa [nI] using hf
/-- The row ends. -/
theorem AlI.endRow (h : AlI w J sy vO vF vE vZ vP vC vS vA G cH H met vT it en W) (h1 : it.length ≤ 1000000000) (h2 : en.length ≤ 1000000000) : Calls Tryd.prog 72 #[.pointer (some ⟨J, 4, none⟩)] W fun e w' => (∃ v, e = .returned v) ∧ Hid (AlI w J sy vO vF vE vZ vP vC vS vA G cH H met vT it (en ++ [it.length]) w') := by
  obtain ⟨vL, vM, j1, j2, j3, j4, j5⟩ := h.jo
  obtain ⟨a, c, e⟩ := own_sl j2
  obtain ⟨a', c', e'⟩ := own_sl j3
  rw [nI_len] at e'
  subst e
  subst e'
  refine (endL_any J sy w.heap.size it.length c c' en a a' vO vF vE vZ vP vC vS vA W j1 j3 h.only.size h1 h2).mono (fun _ _ ⟨q1, v', g1, g2, g3, g4⟩ => ⟨q1, hid0 ⟨h.only.trans g3 (fun i hi => hi.imp id (fun e => (World.ownsRow.lt j3 i e).1)), ⟨_, v', g1, keepRow j2 g3 j1.r (by decide) (Apt.ofTyp j2 j3 (by decide)), g2, j4, ?_⟩, keepRow h.hv g3 j1.r (by decide) (Apt.ofTyp h.hv j3 (by decide)), keepRow h.mt g3 j1.r (by decide) j5.symm⟩⟩)
  exact j5.new h.mt g4
end
end Go.Proofs.YtleeedjpccooaaaDoor
namespace Go.Proofs.YtleeedjpccooaaaDoor
open Go.RowKit Go.Shelf
theorem infoU64z : (Tryd.prog.info? 105).map (fun i => (i.zero, i.size, i.bytes)) = some (some (.int .u64 0), 1, 8) := by kernel_rfl
/-- What addLetters leaves. -/
structure LeP (w : World) (J sy : Nat) (vO vF vE vZ vP vC vS vA : Value) (LT : List (List (Nat × Nat))) (W : World) : Prop where
  only : Only w W (fun k => k = J)
  jo : ∃ vL vM, Jb W J sy vO vF vE vL vM vZ vP vC vS vA ∧ OwnL W w.heap.size vL LT.flatten ∧ OwnI W w.heap.size vM (nI (endsN LT)) ∧ (LT.flatten = [] → vL = .slice none 0 0)
def slN (v : Value) : Nat := match v with | .slice _ n _ => n | _ => 0
set_option maxRecDepth 10000 in
set_option maxHeartbeats 6400000 in
theorem addLetters_any (J sy cL : Nat) (aL : Option Addr) (LE : List (List Nat)) (vO vF vE vZ vP vC vS vA : Value) (w : World) (hj : Jb w J sy vO vF vE (.slice none 0 0) (.slice none 0 0) vZ vP vC vS vA) (hLE : LtA w J aL LE) (hcap : LE.length ≤ cL) (hsy : sy ≤ 16384) (hs : ∀ l ∈ LE, ∀ c ∈ l, c < sy) (hlen : LE.length ≤ 64000000) (hsum : (LE.map List.length).sum ≤ 900000000) :
    Calls Tryd.prog 52 #[.pointer (some ⟨J, 0, none⟩), .slice aL LE.length cL] w fun e w' => (∃ v, e = .returned v) ∧ LeP w J sy vO vF vE vZ vP vC vS vA (LTs LE ((LE.length + 63) / 64)) w' := by
  obtain ⟨i0, hi, hz⟩ := Option.map_eq_some_iff.1 infoInt1
  simp only [Prod.mk.injEq] at hz
  obtain ⟨hz0, hz1, hz2⟩ := hz
  obtain ⟨l0, hl, hy⟩ := Option.map_eq_some_iff.1 infoLetter
  simp only [Prod.mk.injEq] at hy
  obtain ⟨hy0, hy1, hy2⟩ := hy
  have hmk : ∀ V : World, (Instr.makeSlice 83 (.int .i64 (sy : Int)) (.int .i64 (sy : Int))).run Tryd.prog V = .ok (.slice (some ⟨V.heap.size, 0, none⟩) sy sy) (V.alloc (.cells (madeCells #[.int .u64 0] sy) 105)) := fun V => made_run (t := 83) Tryd.underlying83 infoU64z sy sy (Nat.le_refl _) (by omega) (by omega) V
  obtain ⟨w0, hw0⟩ : ∃ w0, w0 = w.alloc (.cells (madeCells #[.int .u64 0] sy) 105) := ⟨_, rfl⟩
  obtain ⟨G, hG⟩ : ∃ G, G = w.heap.size := ⟨_, rfl⟩
  have hA0 : AlI w J sy vO vF vE vZ vP vC vS vA G sy (fun _ => 0) [] (.slice none 0 0) [] [] w0 := by
    have hb : Below w.heap.size w w0 := by rw [hw0]; exact (Below.refl _ _).alloc (Nat.le_refl _) _
    refine ⟨Only.ofNew hb _, ⟨_, _, hj.past hb, World.ownsRow_nil _ _ _ _, World.ownsRow_nil _ _ _ _, fun _ => rfl, fun k hk => by cases hk⟩, ?_, World.ownsRow_nil _ _ _ _⟩
    have h := made_own (e := 105) (z := .int .u64 0) rfl sy sy (Nat.le_refl _) (by omega) w w.heap.size (Nat.le_refl _)
    unfold OwnH
    rw [hw0, hG]
    have e : hvV (fun _ => 0) sy = List.replicate sy (.int .u64 0) := by
      unfold hvV
      rw [List.map_const', List.length_range]
      rfl
    rw [e]
    exact h
  have d0 : w.cell? ⟨J, 0, none⟩ = some (.int .i64 (sy : Int)) := hj.c.1
  have HA0 := hid0 hA0
  have HLE := hid0 hLE
  have HS := hid0 hs
  have HSum := hid0 hsum
  have HLn := hid0 hlen
  have hfold := hw0.symm
  have hG2 := hG.symm
  clear hj hw0 hA0 hG hs hsum
  go_enter Tryd.func52, Tryd.ntmps52
  go_wp2
  go_loopw [1, 5] (fun l t wr => ∃ (i : Nat) (a : Option Addr) (n c : Nat), l = .slice a n c ∧ n ≤ c ∧ n ≤ 64000000 ∧ Hid (n = (LE.drop (64 * i)).length ∧ 64 * i < LE.length + 64 ∧ LtA w J a (LE.drop (64 * i))) ∧ Hid (∃ met, AlI w J sy vO vF vE vZ vP vC vS vA G sy (fun _ => 0) met t (LTs LE i).flatten (endsN (LTs LE i)) wr)) (fun l _ _ => slN l)
  case atStart => exact ⟨0, aL, LE.length, cL, rfl, hcap, hlen, hid0 ⟨by simp, by omega, by simpa using HLE.out⟩, hid0 ⟨[], by simpa [LTs, endsN] using HA0.out⟩⟩
  case round =>
    clear d0 hmk hfold hLE hcap hlen
    obtain ⟨i, a, n, c, rfl, hnc, hn, HI, HA⟩ := hrel
    obtain ⟨met, hA⟩ := HA.out
    by_cases hn0 : n = 0
    · subst hn0
      have HF : Hid (LeP w J sy vO vF vE vZ vP vC vS vA (LTs LE ((LE.length + 63) / 64)) wr) := hid0 (by
        obtain ⟨h1, h2, _⟩ := HI.out
        rw [List.length_drop] at h1
        have e : (LE.length + 63) / 64 = i := by omega
        rw [e]
        obtain ⟨vL, vM, j1, j2, j3, j4, _⟩ := hA.jo
        exact ⟨hA.only, vL, vM, j1, j2, j3, j4⟩)
      clear hA HA
      go_wp2
      go_end0
      exact ⟨⟨_, rfl⟩, HF.out⟩
    · obtain ⟨aT, cT, rfl, hcT, hA1⟩ := hA.fresh
      obtain ⟨b0, off, eb, hb0, hbJ, _⟩ := HI.out.2.2.at' 0 (by rw [← HI.out.1]; omega)
      subst eb
      have HA1 := hid0 hA1
      have hnI : (0 : Int) < (n : Int) := by omega
      have hnP : 0 < n := by omega
      have hdec : decide (0 < n) = true := by simp; omega
      clear hA hA1 HA
      by_cases hsp : n < 64
      · have hcnc : n ≤ c := by omega
        have hcnI : (n : Int) ≤ (c : Int) := by omega
        have hspI : (n : Int) < 64 := by omega
        obtain ⟨ch, hch⟩ : ∃ ch, ch = chL LE i := ⟨_, rfl⟩
        have HCh : Hid (ch = chL LE i ∧ ch.length = n) := hid0 ⟨hch, by rw [hch]; unfold chL; rw [List.length_take, ← HI.out.1]; omega⟩
        have HLt : Hid (∀ b (h : b < n), ∃ a1 c1, (∀ V : World, Only w V (fun k => k = J) → V.cell? ⟨b0, off + b, none⟩ = some (.slice a1 (ch.getD b []).length c1) ∧ IA V a1 (nI (ch.getD b []))) ∧ (∀ x ∈ ch.getD b [], x < sy) ∧ (ch.getD b []).length ≤ 900000000) := hid0 (fun b hb => by
          obtain ⟨_, _, e, _, _, a1, c1, q1, q2⟩ := HI.out.2.2.at' b (by rw [← HI.out.1]; omega)
          cases e
          have e1 : ch.getD b [] = (LE.drop (64 * i))[b]'(by rw [← HI.out.1]; omega) := by
            rw [hch]; unfold chL
            rw [List.getD_eq_getElem?_getD, List.getElem?_take, if_pos (by omega), List.getElem?_eq_getElem]; rfl
          rw [e1]
          have hmem : (LE.drop (64 * i))[b]'(by rw [← HI.out.1]; omega) ∈ LE := List.mem_of_mem_drop (List.getElem_mem _)
          refine ⟨a1, c1, fun V hV => ⟨(hV.cell (p := ⟨b0, off + b, none⟩) hb0 hbJ).trans q1, q2 V hV⟩, fun x hx => HS.out _ hmem x hx, ?_⟩
          exact Nat.le_trans (mem_le_sum (List.mem_map_of_mem hmem)) HSum.out)
        obtain ⟨it0, hit0⟩ : ∃ it0, it0 = (LTs LE i).flatten := ⟨_, rfl⟩
        obtain ⟨en0, hen0⟩ : ∃ en0, en0 = endsN (LTs LE i) := ⟨_, rfl⟩
        have HIt := hid0 (And.intro hit0 hen0)
        rw [← hit0, ← hen0] at HA1
        clear hch hit0 hen0
        go_wp2
        go_loopw [5, 30] (fun t q wr => ∃ b : Nat, b ≤ n ∧ q = .int .i64 (b : Int) ∧ Hid (AlI w J sy vO vF vE vZ vP vC vS vA G sy (accL ch b).2 (accL ch b).1 t it0 en0 wr)) (fun _ q _ => n - (intOf q).toNat)
        case atStart => exact ⟨0, Nat.zero_le _, rfl, HA1⟩
        case round =>
          obtain ⟨b, hb, rfl, HB⟩ := hrel
          by_cases hbl : b < n
          · obtain ⟨a1, c1, hL1, hL2, hL3⟩ := HLt.out b hbl
            obtain ⟨L, hL⟩ : ∃ L, L = ch.getD b [] := ⟨_, rfl⟩
            rw [← hL] at hL1 hL2 hL3
            have z0 := (hL1 wr HB.out.only).1
            have HL1 : Hid (∀ V : World, Only w V (fun k => k = J) → IA V a1 (nI L)) := hid0 (fun V hV => (hL1 V hV).2)
            have HL2 := hid0 hL2
            have HL := hid0 hL
            clear hL1 hL2 hL
            have hbI : (b : Int) < (n : Int) := by omega
            have hbI0 : (0 : Int) ≤ (b : Int) := by omega
            have hbI64 : (b : Int) < 64 := by omega
            go_wp2
            go_loopw [5, 37] (fun t q wr => ∃ m : Nat, m ≤ L.length ∧ q = .int .i64 (m : Int) ∧ Hid (AlI w J sy vO vF vE vZ vP vC vS vA G sy ((L.take m).foldl (stepL b) (accL ch b)).2 ((L.take m).foldl (stepL b) (accL ch b)).1 t it0 en0 wr)) (fun _ q _ => L.length - (intOf q).toNat)
            case atStart => exact ⟨0, Nat.zero_le _, rfl, by simpa using HB⟩
            case round =>
              clear z0
              obtain ⟨m, hm, rfl, HM⟩ := hrel
              obtain ⟨V, hV⟩ : ∃ V, V = wr := ⟨_, rfl⟩
              subst hV
              by_cases hml : m < L.length
              · obtain ⟨g1, o1, eg, _, z1⟩ := (HL1.out V HM.out.only).at' m (by rw [nI_len]; exact hml)
                subst eg
                obtain ⟨x, hx⟩ : ∃ x, x = L[m] := ⟨_, rfl⟩
                have z2 : V.cell? ⟨g1, o1 + m, none⟩ = some (.int .i64 (x : Int)) := by rw [z1, hx]; unfold nI; rw [List.getElem_map]
                have hxs : x < sy := HL2.out x (by rw [hx]; exact List.getElem_mem hml)
                obtain ⟨st, hst⟩ : ∃ st, st = (L.take m).foldl (stepL b) (accL ch b) := ⟨_, rfl⟩
                have HNx : Hid ((L.take (m + 1)).foldl (stepL b) (accL ch b) = stepL b st x) := hid0 (by rw [List.take_add_one, List.getElem?_eq_getElem hml, Option.toList_some, List.foldl_append, ← hst, hx]; rfl)
                have hsm := (LmOk.list (b := b) (L.take m) (accL_ok ch b)).small sy (by
                  rintro c' k (⟨q1, q2⟩ | ⟨q1, q2⟩)
                  · exact ⟨(HLt.out k (by omega)).elim (fun _ h => h.elim (fun _ h => h.2.1 c' q2)), by omega⟩
                  · exact ⟨HL2.out c' (List.mem_of_mem_take q1), by omega⟩)
                rw [← hst] at hsm
                have hM1 := HM.out
                rw [← hst] at hM1
                obtain ⟨aT, cT, eT⟩ := own_sl hM1.mt
                obtain ⟨nT, hnT⟩ : ∃ nT, nT = (nI st.1).length := ⟨_, rfl⟩
                rw [← hnT] at eT
                subst eT
                have HT : Hid (V.ownsRow w.heap.size 3 1 (.slice aT nT cT) nT ((nI st.1).map (Value.int .i64))) := hid0 (by have h := hM1.mt; unfold OwnI at h; rw [← hnT] at h; exact h)
                obtain ⟨zG, fG⟩ := hM1.hv.at' hxs
                obtain ⟨y, hy⟩ : ∃ y, y = st.2 x := ⟨_, rfl⟩
                rw [← hy] at zG
                obtain ⟨y2, hy2⟩ : ∃ y2 : Nat, y2 = y ||| 2 ^ b := ⟨_, rfl⟩
                have hyl : y < 18446744073709551616 := by rw [hy]; exact hsm.2.2 x
                obtain ⟨bp, hbp⟩ : ∃ bp : Nat, bp = 2 ^ b := ⟨_, rfl⟩
                have hbpl : bp < 18446744073709551616 := by rw [hbp]; exact Nat.lt_of_lt_of_le (Nat.pow_lt_pow_right (by omega) (by omega : b < 64)) (by decide)
                have hwb : IntKind.u64.wrap (2 ^ b) = (bp : Int) := by
                  rw [hbp, IntKind.wrap_u64]
                  have e : (2 : Int) ^ b = ((2 ^ b : Nat) : Int) := by simp
                  rw [e]
                  rw [hbp] at hbpl
                  omega
                have hor : bits .or .u64 (y : Int) (bp : Int) = (y2 : Int) := by rw [hy2, ← hbp]; exact bits_or_u64_nat y bp hyl hbpl
                have hHx : (fun z => if z = x then y2 else st.2 z) = (stepL b st x).2 := by
                  funext z
                  show _ = if z = x then st.2 z ||| 2 ^ b else st.2 z
                  by_cases hz : z = x
                  · rw [if_pos hz, if_pos hz, hy2, hy, hz]
                  · rw [if_neg hz, if_neg hz]
                have HPt : Hid (∀ (V1 : World) (t : Value) (mm : List Nat), AlI w J sy vO vF vE vZ vP vC vS vA G sy st.2 mm t it0 en0 V1 → mm = (stepL b st x).1 → AlI w J sy vO vF vE vZ vP vC vS vA G sy ((L.take (m + 1)).foldl (stepL b) (accL ch b)).2 ((L.take (m + 1)).foldl (stepL b) (accL ch b)).1 t it0 en0 ((V1.setCell ⟨G, x, none⟩ (.int .u64 (y2 : Int))).drew)) := hid0 (fun V1 t mm h e => by
                  rw [HNx.out, ← hHx, ← e]
                  exact (h.putH hxs y2).drew)
                have hxI : (x : Int) < (sy : Int) := by omega
                have hxI0 : (0 : Int) ≤ (x : Int) := by omega
                have hmI : (m : Int) < (L.length : Int) := by omega
                have hmI0 : (0 : Int) ≤ (m : Int) := by omega
                have hnb : nT ≤ 16384 := by rw [hnT, nI_len]; omega
                have HM1 := hid0 hM1
                have HNT := hid0 hnT
                have HSt := hid0 hy
                clear hst hsm hM1 hnT hy2 hbp hHx HM hyl hbpl z1 hx
                by_cases h0 : y = 0
                · have HSt1 : Hid ((stepL b st x).1 = st.1 ++ [x]) := hid0 (by show (if st.2 x = 0 then st.1 ++ [x] else st.1) = _; rw [← HSt.out, if_pos h0])
                  subst h0
                  have zG0 : V.cell? ⟨G, x, none⟩ = some (.int .u64 0) := zG
                  have hor0 : bits .or .u64 0 (bp : Int) = (y2 : Int) := hor
                  have HG1 : Hid (∀ (w1 : World) (v1 : Value), ApG 3 V w1 w.heap.size (.slice aT nT cT) v1 ((nI st.1).map (Value.int .i64) ++ [Value.int .i64 (x : Int)]) → AlI w J sy vO vF vE vZ vP vC vS vA G sy st.2 (st.1 ++ [x]) v1 it0 en0 w1) := hid0 (fun w1 v1 g => HM1.out.meet g)
                  have hlr : w.heap.size ≤ V.heap.size := HM1.out.only.size
                  clear zG hy hor
                  go_upto_region 13 with (at_builtin; go_loud ((refine wpList_append_own_at _ rfl _ _ 34 rfl w.heap.size 3 i0 (.int .i64 0) 1 8 Tryd.underlying34 hi hz0 hz1 hz2 rfl (by decide) (.slice aT nT cT) nT ((nI st.1).map (Value.int .i64)) rfl (World.ownsRow.alloc HT.out _) ⟨V.heap.size, 0, none⟩ 1 1 [.int .i64 (x : Int)] rfl rfl (cell_one_new _ _ _) (by simp [Value.oneCell']) (by unfold maxLen; omega) (by omega) (by simp; omega) ?_; intro v1 w1 h1 h2 _ h4; have R := hid0 (HG1.out w1 v1 (apG_one (by rw [List.length_map, ← HNT.out]; exact h1) h2 h4)); clear h1 h2 h4)))
                  obtain ⟨zG1, fG1⟩ := R.out.hv.at' hxs
                  rw [← HSt.out] at zG1
                  have HM2 := hid0 (HPt.out w1 _ _ R.out HSt1.out.symm)
                  clear zG0 fG z2 HG1 R
                  go_region
                  all_goals
                    go_wp2
                    go_roundw
                    case rel => first | exact ⟨m + 1, by omega, by go_num, HM2⟩ | ((repeat apply Exists.intro); exact ⟨⟨m + 1, by omega, by go_num, HM2⟩, rfl⟩)
                    case measure => simp [intOf]; omega
                · have HSt1 : Hid ((stepL b st x).1 = st.1) := hid0 (by show (if st.2 x = 0 then st.1 ++ [x] else st.1) = _; rw [← HSt.out, if_neg h0])
                  have HM2 := hid0 (HPt.out V _ _ HM1.out HSt1.out.symm)
                  have h0I : ¬ (y : Int) = 0 := by omega
                  have h0B : ((y : Int) == 0) = false := by rw [beq_eq_false_iff_ne]; omega
                  clear hy HSt
                  go_wp2
                  go_region
                  all_goals
                    go_wp2
                    go_roundw
                    case rel => exact ⟨m + 1, by omega, by go_num, HM2⟩
                    case measure => simp [intOf]; omega
              · obtain rfl : m = L.length := by omega
                have hB2 := HM.out
                rw [List.take_length, HL.out] at hB2
                change AlI w J sy vO vF vE vZ vP vC vS vA G sy (accL ch (b + 1)).2 (accL ch (b + 1)).1 _ it0 en0 V at hB2
                have HB2 := hid0 hB2
                clear hB2
                clear HM
                go_wp2
                go_roundw
                case rel => exact ⟨b + 1, by omega, by go_num, HB2⟩
                case measure => simp [intOf]; omega
          · have hbC : b = n := by omega
            obtain ⟨st, hst⟩ : ∃ st, st = accL ch b := ⟨_, rfl⟩
            have hB1 := HB.out
            rw [← hst] at hB1
            have hok := accL_ok ch b
            rw [← hst] at hok
            have hsm := hok.small sy (by
              rintro c' k ⟨q1, q2⟩
              exact ⟨(HLt.out k (by omega)).elim (fun _ h => h.elim (fun _ h => h.2.1 c' q2)), by omega⟩)
            have HRow : Hid (rowL LE i = st.1.map fun c => (c, st.2 c)) := hid0 (by unfold rowL; rw [← HCh.out.1, HCh.out.2, ← hbC, ← hst])
            obtain ⟨aT, cT, eT⟩ := own_sl hB1.mt
            obtain ⟨nT, hnT⟩ : ∃ nT, nT = st.1.length := ⟨_, rfl⟩
            rw [nI_len, ← hnT] at eT
            subst eT
            obtain ⟨H, hH⟩ : ∃ H, H = st.2 := ⟨_, rfl⟩
            obtain ⟨mt, hmt⟩ : ∃ mt, mt = st.1 := ⟨_, rfl⟩
            rw [← hH] at HRow hB1 hsm
            rw [← hmt] at HRow hB1 hsm hnT
            have HMt : Hid (mt.Nodup ∧ (∀ c, c ∈ mt ↔ H c ≠ 0) ∧ (∀ c ∈ mt, c < sy) ∧ ∀ c, H c < 18446744073709551616) := hid0 ⟨by rw [hmt]; exact hok.nd, by rw [hmt, hH]; exact hok.mem, hsm.2.1, hsm.2.2⟩
            have hnb : nT ≤ 16384 := by rw [hnT]; have := hsm.1; omega
            have HNT := hid0 hnT
            have HItl : Hid (it0.length + mt.length ≤ 900000000 ∧ en0.length ≤ 2000000) := hid0 (by
              have q1 := LTs_small LE (i + 1)
              rw [LTs_succ, List.flatten_append, List.length_append, HRow.out, ← HIt.out.1] at q1
              simp only [List.flatten_cons, List.flatten_nil, List.append_nil, List.length_map] at q1
              refine ⟨Nat.le_trans q1 HSum.out, ?_⟩
              rw [HIt.out.2, endsN_len]
              unfold LTs
              have q2 := HI.out.1
              have q3 := HI.out.2.1
              rw [List.length_drop] at q2
              rw [List.length_map, List.length_range]
              have := HLn.out
              omega)
            have HB1 := hid0 hB1
            clear hst hok hsm hH hmt hB1 HB hnT
            go_wp2
            go_loopw [62] (fun q wr => ∃ m : Nat, m ≤ nT ∧ q = .int .i64 (m : Int) ∧ Hid (AlI w J sy vO vF vE vZ vP vC vS vA G sy (hzF mt H m) mt (.slice aT nT cT) (it0 ++ itF mt H m) en0 wr)) (fun q _ => nT - (intOf q).toNat)
            case atStart => exact ⟨0, Nat.zero_le _, rfl, by rw [hzF_zero, itF_zero, List.append_nil]; exact HB1⟩
            case round =>
              obtain ⟨m, hm, rfl, HM⟩ := hrel
              obtain ⟨V, hV⟩ : ∃ V, V = wr := ⟨_, rfl⟩
              subst hV
              by_cases hml : m < nT
              · have hml2 : m < mt.length := by rw [← HNT.out]; exact hml
                obtain ⟨x, hx⟩ : ∃ x, x = mt[m] := ⟨_, rfl⟩
                have hxm : x ∈ mt := by rw [hx]; exact List.getElem_mem hml2
                have hxs : x < sy := HMt.out.2.2.1 x hxm
                obtain ⟨H1, hH1⟩ : ∃ H1 : Nat → Nat, H1 = hzF mt H m := ⟨_, rfl⟩
                obtain ⟨it1, hit1⟩ : ∃ it1, it1 = it0 ++ itF mt H m := ⟨_, rfl⟩
                have hM1 := HM.out
                rw [← hH1, ← hit1] at hM1
                obtain ⟨y, hy⟩ : ∃ y, y = H x := ⟨_, rfl⟩
                have hy1 : H1 x = y := by rw [hH1, hy, hx]; exact hzF_at mt H hml2 HMt.out.1
                have HE1 : Hid ((fun z => if z = x then 0 else H1 z) = hzF mt H (m + 1)) := hid0 (by rw [hH1, hx]; exact hzF_succ mt H hml2)
                have HE2 : Hid (it1 ++ [(x, y)] = it0 ++ itF mt H (m + 1)) := hid0 (by rw [hit1, itF_succ mt H hml2, ← hx, ← hy, List.append_assoc])
                obtain ⟨ni, hni⟩ : ∃ ni, ni = it1.length := ⟨_, rfl⟩
                have hnib : ni ≤ 900000000 := by
                  have q := HItl.out.1
                  have q2 := itF_len mt H m
                  rw [hni, hit1, List.length_append]; omega
                obtain ⟨zG, fG⟩ := hM1.hv.at' hxs
                rw [hy1] at zG
                obtain ⟨aI, cI, dI, hown, hnx⟩ := hM1.drew.item
                rw [← hni] at dI hown hnx
                have zT : V.cell? ⟨0, 0, none⟩ = V.cell? ⟨0, 0, none⟩ := rfl
                obtain ⟨gT, eT, zT⟩ : ∃ gT, aT = some ⟨gT, 0, none⟩ ∧ V.cell? ⟨gT, m, none⟩ = some (.int .i64 (x : Int)) := by
                  obtain ⟨a, c', e, hia⟩ := hM1.mt.ia
                  simp only [Value.slice.injEq] at e
                  obtain ⟨g, c2, e2, _, _, _⟩ := own_form hM1.mt (by rw [nI_len]; omega)
                  simp only [Value.slice.injEq] at e2
                  refine ⟨g, e2.1, ?_⟩
                  have h3 : V.ownsRow w.heap.size 3 1 (.slice (some ⟨g, 0, none⟩) nT cT) nT ((nI mt).map (Value.int .i64)) := by have h := hM1.mt; unfold OwnI at h; rw [nI_len, ← HNT.out, e2.1] at h; exact h
                  rw [World.ownsRow.cellAt h3 m (by omega)]
                  simp [nI, hml2, hx]
                subst eT
                obtain ⟨vB, hvB⟩ : ∃ vB, vB = V.drew.alloc (.cells #[.int .i64 (x : Int), .int .u64 (y : Int)] 127) := ⟨_, rfl⟩
                have HOw : Hid (vB.ownsRow w.heap.size 127 2 (.slice aI ni cI) ni (cells2 it1)) := hid0 (by rw [hvB]; exact World.ownsRow.alloc hown _)
                have HNw : Hid (∀ j u, (cells2 [(x, y)])[j]? = some u → vB.cell? ((⟨V.heap.size, 0, none⟩ : Addr).add j) = some u) := hid0 (by rw [hvB]; exact cell_two_new _ _ _ _)
                have HLw : Hid (w.heap.size ≤ vB.heap.size) := hid0 (by rw [hvB]; have := hM1.only.size; simp; omega)
                have hVB : Below V.heap.size V vB := by rw [hvB]; exact ((Below.refl _ _).drew).alloc (Nat.le_refl _) _
                have dV : V.cell? ⟨J, 4, none⟩ = some (.slice aI ni cI) := dI
                have dB : vB.cell? ⟨J, 4, none⟩ = some (.slice aI ni cI) := (hVB.cell (p := ⟨J, 4, none⟩) (World.block_lt_of_cell? V _ dV)).trans dV
                have zB : vB.cell? ⟨G, x, none⟩ = some (.int .u64 (y : Int)) := (hVB.cell (p := ⟨G, x, none⟩) (World.block_lt_of_cell? V _ zG)).trans zG
                have HNx : Hid (∀ (v' : Value) (w2 : World), w2.ownsRow w.heap.size 127 2 v' (ni + 1) (cells2 it1 ++ cells2 [(x, y)]) → vB.grownBy w2 (Value.slice aI ni cI).ownBlock → (v'.ownBlock = (Value.slice aI ni cI).ownBlock ∨ v'.ownBlock = some vB.heap.size) → (w2.cell? ⟨J, 4, none⟩ = some (.slice aI ni cI) ∧ w2.frozen? ⟨J, 4, none⟩ = false) ∧ AlI w J sy vO vF vE vZ vP vC vS vA G sy H1 mt (.slice (some ⟨gT, 0, none⟩) nT cT) (it1 ++ [(x, y)]) en0 (w2.setCell ⟨J, 4, none⟩ v')) := hid0 (fun v' w2 h1 h2 h3 => by
                  rw [hvB] at h2 h3
                  exact hnx v' w2 (x, y) (apL_one (by rw [← hni]; exact h1) h2 h3))
                have HPt : Hid (∀ V1 : World, AlI w J sy vO vF vE vZ vP vC vS vA G sy H1 mt (.slice (some ⟨gT, 0, none⟩) nT cT) (it1 ++ [(x, y)]) en0 V1 → (V1.cell? ⟨G, x, none⟩ = some (.int .u64 (y : Int)) ∧ V1.frozen? ⟨G, x, none⟩ = false) ∧ AlI w J sy vO vF vE vZ vP vC vS vA G sy (hzF mt H (m + 1)) mt (.slice (some ⟨gT, 0, none⟩) nT cT) (it0 ++ itF mt H (m + 1)) en0 (V1.setCell ⟨G, x, none⟩ (.int .u64 0))) := hid0 (fun V1 h => by
                  have q := h.hv.at' hxs
                  rw [hy1] at q
                  have h2 := h.putH hxs 0
                  rw [HE1.out, HE2.out] at h2
                  exact ⟨q, h2⟩)
                have hxI : (x : Int) < (sy : Int) := by omega
                have hxI0 : (0 : Int) ≤ (x : Int) := by omega
                have hmI : (m : Int) < (nT : Int) := by omega
                have hmI0 : (0 : Int) ≤ (m : Int) := by omega
                have gB := hvB.symm
                clear hvB hVB hnx hown dI HM hM1 hH1 hit1 hni hy hy1 HE1 HE2 hx hxm hml2
                go_upto_region 19 with (fail)
                go_region_law ((refine step_append_own_at (by rfl) _ _ 87 (by rfl) w.heap.size 127 l0 _ 2 16 Tryd.underlying87 hl hy0 hy1 hy2 rfl (by decide) (.slice aI ni cI) ni (cells2 it1) (by rfl) HOw.out ⟨V.heap.size, 0, none⟩ 1 1 (cells2 [(x, y)]) (by rfl) (by rfl) HNw.out (cells2_one _) (by unfold maxLen; omega) (by omega) HLw.out ?_; intro v' w2 h1 h2 h3; obtain ⟨a2, c2, rfl⟩ := own_sl h1; have R := hid0 (HNx.out _ _ h1 ⟨h2.os, h2.tape, h2.output, h2.size, h2.block⟩ h3); clear h1 h2 h3; have t1 := R.out.1.1; have t2 := R.out.1.2))
                all_goals
                  have HR := hid0 (HPt.out _ R.out.2)
                  clear R t1 t2
                  generalize w2.setCell ⟨J, 4, none⟩ (.slice a2 (ni + 1) c2) = w3 at *
                  obtain ⟨r1, r2⟩ := HR.out.1
                  go_wp2
                  go_roundw
                  case rel => exact ⟨m + 1, by omega, by go_num, hid0 HR.out.2⟩
                  case measure => simp [intOf]; omega
              · obtain rfl : m = nT := by omega
                have hM1 := HM.out
                rw [HNT.out, hzF_end mt H HMt.out.2.1] at hM1
                have e1 : it0 ++ itF mt H mt.length = (LTs LE (i + 1)).flatten := by
                  rw [LTs_succ, List.flatten_append, HRow.out, ← HIt.out.1]
                  unfold itF
                  rw [List.take_length]
                  simp
                rw [e1, ← HNT.out] at hM1
                have HCe := hid0 (hM1.endRow (Nat.le_trans (LTs_small LE (i + 1)) (by have := HSum.out; omega)) (by have := HItl.out.2; omega))
                have e2 : en0 ++ [(LTs LE (i + 1)).flatten.length] = endsN (LTs LE (i + 1)) := by rw [LTs_succ, endsN_snoc, ← HIt.out.2]
                rw [e2] at HCe
                have HNl : Hid (n - n = (LE.drop (64 * (i + 1))).length ∧ 64 * (i + 1) < LE.length + 64 ∧ LtA w J (if c = n then some ⟨b0, off, none⟩ else some ⟨b0, off + n, none⟩) (LE.drop (64 * (i + 1)))) := hid0 (by
                  obtain ⟨q1, q2, q3⟩ := HI.out
                  have q4 := q3.rest n c (by rw [← q1]; exact hnc)
                  rw [List.length_drop] at q1
                  have e3 : (LE.drop (64 * i)).drop n = LE.drop (64 * (i + 1)) := by
                    rw [List.drop_drop]
                    rw [List.drop_of_length_le (by omega), List.drop_of_length_le (by omega)]
                  rw [e3] at q4
                  exact ⟨by rw [List.length_drop]; omega, by omega, q4⟩)
                clear e1 e2 hM1 HM
                go_wp2_with (go_at_call 72; go_loud ((refine HCe.out.mono ?_; rintro e w4 ⟨⟨v4, rfl⟩, HA4⟩)))
                go_roundw
                case rel => exact ⟨i + 1, _, _, _, rfl, by omega, by omega, hid0 (by have q := HNl.out; rw [Nat.sub_self] at q; exact q), hid0 ⟨_, HA4.out⟩⟩
                case measure => (show 0 < n); omega
      · have hcnc : 64 ≤ c := by omega
        have hcnI : (64 : Int) ≤ (c : Int) := by omega
        have hspI : (64 : Int) ≤ (n : Int) := by omega
        obtain ⟨ch, hch⟩ : ∃ ch, ch = chL LE i := ⟨_, rfl⟩
        have HCh : Hid (ch = chL LE i ∧ ch.length = 64) := hid0 ⟨hch, by rw [hch]; unfold chL; rw [List.length_take, ← HI.out.1]; omega⟩
        have HLt : Hid (∀ b (h : b < 64), ∃ a1 c1, (∀ V : World, Only w V (fun k => k = J) → V.cell? ⟨b0, off + b, none⟩ = some (.slice a1 (ch.getD b []).length c1) ∧ IA V a1 (nI (ch.getD b []))) ∧ (∀ x ∈ ch.getD b [], x < sy) ∧ (ch.getD b []).length ≤ 900000000) := hid0 (fun b hb => by
          obtain ⟨_, _, e, _, _, a1, c1, q1, q2⟩ := HI.out.2.2.at' b (by rw [← HI.out.1]; omega)
          cases e
          have e1 : ch.getD b [] = (LE.drop (64 * i))[b]'(by rw [← HI.out.1]; omega) := by
            rw [hch]; unfold chL
            rw [List.getD_eq_getElem?_getD, List.getElem?_take, if_pos (by omega), List.getElem?_eq_getElem]; rfl
          rw [e1]
          have hmem : (LE.drop (64 * i))[b]'(by rw [← HI.out.1]; omega) ∈ LE := List.mem_of_mem_drop (List.getElem_mem _)
          refine ⟨a1, c1, fun V hV => ⟨(hV.cell (p := ⟨b0, off + b, none⟩) hb0 hbJ).trans q1, q2 V hV⟩, fun x hx => HS.out _ hmem x hx, ?_⟩
          exact Nat.le_trans (mem_le_sum (List.mem_map_of_mem hmem)) HSum.out)
        obtain ⟨it0, hit0⟩ : ∃ it0, it0 = (LTs LE i).flatten := ⟨_, rfl⟩
        obtain ⟨en0, hen0⟩ : ∃ en0, en0 = endsN (LTs LE i) := ⟨_, rfl⟩
        have HIt := hid0 (And.intro hit0 hen0)
        rw [← hit0, ← hen0] at HA1
        clear hch hit0 hen0
        go_wp2
        go_loopw [5, 30] (fun t q wr => ∃ b : Nat, b ≤ 64 ∧ q = .int .i64 (b : Int) ∧ Hid (AlI w J sy vO vF vE vZ vP vC vS vA G sy (accL ch b).2 (accL ch b).1 t it0 en0 wr)) (fun _ q _ => 64 - (intOf q).toNat)
        case atStart => exact ⟨0, Nat.zero_le _, rfl, HA1⟩
        case round =>
          obtain ⟨b, hb, rfl, HB⟩ := hrel
          by_cases hbl : b < 64
          · obtain ⟨a1, c1, hL1, hL2, hL3⟩ := HLt.out b hbl
            obtain ⟨L, hL⟩ : ∃ L, L = ch.getD b [] := ⟨_, rfl⟩
            rw [← hL] at hL1 hL2 hL3
            have z0 := (hL1 wr HB.out.only).1
            have HL1 : Hid (∀ V : World, Only w V (fun k => k = J) → IA V a1 (nI L)) := hid0 (fun V hV => (hL1 V hV).2)
            have HL2 := hid0 hL2
            have HL := hid0 hL
            clear hL1 hL2 hL
            have hbI : (b : Int) < (64 : Int) := by omega
            have hbI0 : (0 : Int) ≤ (b : Int) := by omega
            have hbI64 : (b : Int) < 64 := by omega
            go_wp2
            go_loopw [5, 37] (fun t q wr => ∃ m : Nat, m ≤ L.length ∧ q = .int .i64 (m : Int) ∧ Hid (AlI w J sy vO vF vE vZ vP vC vS vA G sy ((L.take m).foldl (stepL b) (accL ch b)).2 ((L.take m).foldl (stepL b) (accL ch b)).1 t it0 en0 wr)) (fun _ q _ => L.length - (intOf q).toNat)
            case atStart => exact ⟨0, Nat.zero_le _, rfl, by simpa using HB⟩
            case round =>
              clear z0
              obtain ⟨m, hm, rfl, HM⟩ := hrel
              obtain ⟨V, hV⟩ : ∃ V, V = wr := ⟨_, rfl⟩
              subst hV
              by_cases hml : m < L.length
              · obtain ⟨g1, o1, eg, _, z1⟩ := (HL1.out V HM.out.only).at' m (by rw [nI_len]; exact hml)
                subst eg
                obtain ⟨x, hx⟩ : ∃ x, x = L[m] := ⟨_, rfl⟩
                have z2 : V.cell? ⟨g1, o1 + m, none⟩ = some (.int .i64 (x : Int)) := by rw [z1, hx]; unfold nI; rw [List.getElem_map]
                have hxs : x < sy := HL2.out x (by rw [hx]; exact List.getElem_mem hml)
                obtain ⟨st, hst⟩ : ∃ st, st = (L.take m).foldl (stepL b) (accL ch b) := ⟨_, rfl⟩
                have HNx : Hid ((L.take (m + 1)).foldl (stepL b) (accL ch b) = stepL b st x) := hid0 (by rw [List.take_add_one, List.getElem?_eq_getElem hml, Option.toList_some, List.foldl_append, ← hst, hx]; rfl)
                have hsm := (LmOk.list (b := b) (L.take m) (accL_ok ch b)).small sy (by
                  rintro c' k (⟨q1, q2⟩ | ⟨q1, q2⟩)
                  · exact ⟨(HLt.out k (by omega)).elim (fun _ h => h.elim (fun _ h => h.2.1 c' q2)), by omega⟩
                  · exact ⟨HL2.out c' (List.mem_of_mem_take q1), by omega⟩)
                rw [← hst] at hsm
                have hM1 := HM.out
                rw [← hst] at hM1
                obtain ⟨aT, cT, eT⟩ := own_sl hM1.mt
                obtain ⟨nT, hnT⟩ : ∃ nT, nT = (nI st.1).length := ⟨_, rfl⟩
                rw [← hnT] at eT
                subst eT
                have HT : Hid (V.ownsRow w.heap.size 3 1 (.slice aT nT cT) nT ((nI st.1).map (Value.int .i64))) := hid0 (by have h := hM1.mt; unfold OwnI at h; rw [← hnT] at h; exact h)
                obtain ⟨zG, fG⟩ := hM1.hv.at' hxs
                obtain ⟨y, hy⟩ : ∃ y, y = st.2 x := ⟨_, rfl⟩
                rw [← hy] at zG
                obtain ⟨y2, hy2⟩ : ∃ y2 : Nat, y2 = y ||| 2 ^ b := ⟨_, rfl⟩
                have hyl : y < 18446744073709551616 := by rw [hy]; exact hsm.2.2 x
                obtain ⟨bp, hbp⟩ : ∃ bp : Nat, bp = 2 ^ b := ⟨_, rfl⟩
                have hbpl : bp < 18446744073709551616 := by rw [hbp]; exact Nat.lt_of_lt_of_le (Nat.pow_lt_pow_right (by omega) (by omega : b < 64)) (by decide)
                have hwb : IntKind.u64.wrap (2 ^ b) = (bp : Int) := by
                  rw [hbp, IntKind.wrap_u64]
                  have e : (2 : Int) ^ b = ((2 ^ b : Nat) : Int) := by simp
                  rw [e]
                  rw [hbp] at hbpl
                  omega
                have hor : bits .or .u64 (y : Int) (bp : Int) = (y2 : Int) := by rw [hy2, ← hbp]; exact bits_or_u64_nat y bp hyl hbpl
                have hHx : (fun z => if z = x then y2 else st.2 z) = (stepL b st x).2 := by
                  funext z
                  show _ = if z = x then st.2 z ||| 2 ^ b else st.2 z
                  by_cases hz : z = x
                  · rw [if_pos hz, if_pos hz, hy2, hy, hz]
                  · rw [if_neg hz, if_neg hz]
                have HPt : Hid (∀ (V1 : World) (t : Value) (mm : List Nat), AlI w J sy vO vF vE vZ vP vC vS vA G sy st.2 mm t it0 en0 V1 → mm = (stepL b st x).1 → AlI w J sy vO vF vE vZ vP vC vS vA G sy ((L.take (m + 1)).foldl (stepL b) (accL ch b)).2 ((L.take (m + 1)).foldl (stepL b) (accL ch b)).1 t it0 en0 ((V1.setCell ⟨G, x, none⟩ (.int .u64 (y2 : Int))).drew)) := hid0 (fun V1 t mm h e => by
                  rw [HNx.out, ← hHx, ← e]
                  exact (h.putH hxs y2).drew)
                have hxI : (x : Int) < (sy : Int) := by omega
                have hxI0 : (0 : Int) ≤ (x : Int) := by omega
                have hmI : (m : Int) < (L.length : Int) := by omega
                have hmI0 : (0 : Int) ≤ (m : Int) := by omega
                have hnb : nT ≤ 16384 := by rw [hnT, nI_len]; omega
                have HM1 := hid0 hM1
                have HNT := hid0 hnT
                have HSt := hid0 hy
                clear hst hsm hM1 hnT hy2 hbp hHx HM hyl hbpl z1 hx
                by_cases h0 : y = 0
                · have HSt1 : Hid ((stepL b st x).1 = st.1 ++ [x]) := hid0 (by show (if st.2 x = 0 then st.1 ++ [x] else st.1) = _; rw [← HSt.out, if_pos h0])
                  subst h0
                  have zG0 : V.cell? ⟨G, x, none⟩ = some (.int .u64 0) := zG
                  have hor0 : bits .or .u64 0 (bp : Int) = (y2 : Int) := hor
                  have HG1 : Hid (∀ (w1 : World) (v1 : Value), ApG 3 V w1 w.heap.size (.slice aT nT cT) v1 ((nI st.1).map (Value.int .i64) ++ [Value.int .i64 (x : Int)]) → AlI w J sy vO vF vE vZ vP vC vS vA G sy st.2 (st.1 ++ [x]) v1 it0 en0 w1) := hid0 (fun w1 v1 g => HM1.out.meet g)
                  have hlr : w.heap.size ≤ V.heap.size := HM1.out.only.size
                  clear zG hy hor
                  go_upto_region 13 with (at_builtin; go_loud ((refine wpList_append_own_at _ rfl _ _ 34 rfl w.heap.size 3 i0 (.int .i64 0) 1 8 Tryd.underlying34 hi hz0 hz1 hz2 rfl (by decide) (.slice aT nT cT) nT ((nI st.1).map (Value.int .i64)) rfl (World.ownsRow.alloc HT.out _) ⟨V.heap.size, 0, none⟩ 1 1 [.int .i64 (x : Int)] rfl rfl (cell_one_new _ _ _) (by simp [Value.oneCell']) (by unfold maxLen; omega) (by omega) (by simp; omega) ?_; intro v1 w1 h1 h2 _ h4; have R := hid0 (HG1.out w1 v1 (apG_one (by rw [List.length_map, ← HNT.out]; exact h1) h2 h4)); clear h1 h2 h4)))
                  obtain ⟨zG1, fG1⟩ := R.out.hv.at' hxs
                  rw [← HSt.out] at zG1
                  have HM2 := hid0 (HPt.out w1 _ _ R.out HSt1.out.symm)
                  clear zG0 fG z2 HG1 R
                  go_region
                  all_goals
                    go_wp2
                    go_roundw
                    case rel => first | exact ⟨m + 1, by omega, by go_num, HM2⟩ | ((repeat apply Exists.intro); exact ⟨⟨m + 1, by omega, by go_num, HM2⟩, rfl⟩)
                    case measure => simp [intOf]; omega
                · have HSt1 : Hid ((stepL b st x).1 = st.1) := hid0 (by show (if st.2 x = 0 then st.1 ++ [x] else st.1) = _; rw [← HSt.out, if_neg h0])
                  have HM2 := hid0 (HPt.out V _ _ HM1.out HSt1.out.symm)
                  have h0I : ¬ (y : Int) = 0 := by omega
                  have h0B : ((y : Int) == 0) = false := by rw [beq_eq_false_iff_ne]; omega
                  clear hy HSt
                  go_wp2
                  go_region
                  all_goals
                    go_wp2
                    go_roundw
                    case rel => exact ⟨m + 1, by omega, by go_num, HM2⟩
                    case measure => simp [intOf]; omega
              · obtain rfl : m = L.length := by omega
                have hB2 := HM.out
                rw [List.take_length, HL.out] at hB2
                change AlI w J sy vO vF vE vZ vP vC vS vA G sy (accL ch (b + 1)).2 (accL ch (b + 1)).1 _ it0 en0 V at hB2
                have HB2 := hid0 hB2
                clear hB2
                clear HM
                go_wp2
                go_roundw
                case rel => exact ⟨b + 1, by omega, by go_num, HB2⟩
                case measure => simp [intOf]; omega
          · have hbC : b = 64 := by omega
            obtain ⟨st, hst⟩ : ∃ st, st = accL ch b := ⟨_, rfl⟩
            have hB1 := HB.out
            rw [← hst] at hB1
            have hok := accL_ok ch b
            rw [← hst] at hok
            have hsm := hok.small sy (by
              rintro c' k ⟨q1, q2⟩
              exact ⟨(HLt.out k (by omega)).elim (fun _ h => h.elim (fun _ h => h.2.1 c' q2)), by omega⟩)
            have HRow : Hid (rowL LE i = st.1.map fun c => (c, st.2 c)) := hid0 (by unfold rowL; rw [← HCh.out.1, HCh.out.2, ← hbC, ← hst])
            obtain ⟨aT, cT, eT⟩ := own_sl hB1.mt
            obtain ⟨nT, hnT⟩ : ∃ nT, nT = st.1.length := ⟨_, rfl⟩
            rw [nI_len, ← hnT] at eT
            subst eT
            obtain ⟨H, hH⟩ : ∃ H, H = st.2 := ⟨_, rfl⟩
            obtain ⟨mt, hmt⟩ : ∃ mt, mt = st.1 := ⟨_, rfl⟩
            rw [← hH] at HRow hB1 hsm
            rw [← hmt] at HRow hB1 hsm hnT
            have HMt : Hid (mt.Nodup ∧ (∀ c, c ∈ mt ↔ H c ≠ 0) ∧ (∀ c ∈ mt, c < sy) ∧ ∀ c, H c < 18446744073709551616) := hid0 ⟨by rw [hmt]; exact hok.nd, by rw [hmt, hH]; exact hok.mem, hsm.2.1, hsm.2.2⟩
            have hnb : nT ≤ 16384 := by rw [hnT]; have := hsm.1; omega
            have HNT := hid0 hnT
            have HItl : Hid (it0.length + mt.length ≤ 900000000 ∧ en0.length ≤ 2000000) := hid0 (by
              have q1 := LTs_small LE (i + 1)
              rw [LTs_succ, List.flatten_append, List.length_append, HRow.out, ← HIt.out.1] at q1
              simp only [List.flatten_cons, List.flatten_nil, List.append_nil, List.length_map] at q1
              refine ⟨Nat.le_trans q1 HSum.out, ?_⟩
              rw [HIt.out.2, endsN_len]
              unfold LTs
              have q2 := HI.out.1
              have q3 := HI.out.2.1
              rw [List.length_drop] at q2
              rw [List.length_map, List.length_range]
              have := HLn.out
              omega)
            have HB1 := hid0 hB1
            clear hst hok hsm hH hmt hB1 HB hnT
            go_wp2
            go_loopw [62] (fun q wr => ∃ m : Nat, m ≤ nT ∧ q = .int .i64 (m : Int) ∧ Hid (AlI w J sy vO vF vE vZ vP vC vS vA G sy (hzF mt H m) mt (.slice aT nT cT) (it0 ++ itF mt H m) en0 wr)) (fun q _ => nT - (intOf q).toNat)
            case atStart => exact ⟨0, Nat.zero_le _, rfl, by rw [hzF_zero, itF_zero, List.append_nil]; exact HB1⟩
            case round =>
              obtain ⟨m, hm, rfl, HM⟩ := hrel
              obtain ⟨V, hV⟩ : ∃ V, V = wr := ⟨_, rfl⟩
              subst hV
              by_cases hml : m < nT
              · have hml2 : m < mt.length := by rw [← HNT.out]; exact hml
                obtain ⟨x, hx⟩ : ∃ x, x = mt[m] := ⟨_, rfl⟩
                have hxm : x ∈ mt := by rw [hx]; exact List.getElem_mem hml2
                have hxs : x < sy := HMt.out.2.2.1 x hxm
                obtain ⟨H1, hH1⟩ : ∃ H1 : Nat → Nat, H1 = hzF mt H m := ⟨_, rfl⟩
                obtain ⟨it1, hit1⟩ : ∃ it1, it1 = it0 ++ itF mt H m := ⟨_, rfl⟩
                have hM1 := HM.out
                rw [← hH1, ← hit1] at hM1
                obtain ⟨y, hy⟩ : ∃ y, y = H x := ⟨_, rfl⟩
                have hy1 : H1 x = y := by rw [hH1, hy, hx]; exact hzF_at mt H hml2 HMt.out.1
                have HE1 : Hid ((fun z => if z = x then 0 else H1 z) = hzF mt H (m + 1)) := hid0 (by rw [hH1, hx]; exact hzF_succ mt H hml2)
                have HE2 : Hid (it1 ++ [(x, y)] = it0 ++ itF mt H (m + 1)) := hid0 (by rw [hit1, itF_succ mt H hml2, ← hx, ← hy, List.append_assoc])
                obtain ⟨ni, hni⟩ : ∃ ni, ni = it1.length := ⟨_, rfl⟩
                have hnib : ni ≤ 900000000 := by
                  have q := HItl.out.1
                  have q2 := itF_len mt H m
                  rw [hni, hit1, List.length_append]; omega
                obtain ⟨zG, fG⟩ := hM1.hv.at' hxs
                rw [hy1] at zG
                obtain ⟨aI, cI, dI, hown, hnx⟩ := hM1.drew.item
                rw [← hni] at dI hown hnx
                have zT : V.cell? ⟨0, 0, none⟩ = V.cell? ⟨0, 0, none⟩ := rfl
                obtain ⟨gT, eT, zT⟩ : ∃ gT, aT = some ⟨gT, 0, none⟩ ∧ V.cell? ⟨gT, m, none⟩ = some (.int .i64 (x : Int)) := by
                  obtain ⟨a, c', e, hia⟩ := hM1.mt.ia
                  simp only [Value.slice.injEq] at e
                  obtain ⟨g, c2, e2, _, _, _⟩ := own_form hM1.mt (by rw [nI_len]; omega)
                  simp only [Value.slice.injEq] at e2
                  refine ⟨g, e2.1, ?_⟩
                  have h3 : V.ownsRow w.heap.size 3 1 (.slice (some ⟨g, 0, none⟩) nT cT) nT ((nI mt).map (Value.int .i64)) := by have h := hM1.mt; unfold OwnI at h; rw [nI_len, ← HNT.out, e2.1] at h; exact h
                  rw [World.ownsRow.cellAt h3 m (by omega)]
                  simp [nI, hml2, hx]
                subst eT
                obtain ⟨vB, hvB⟩ : ∃ vB, vB = V.drew.alloc (.cells #[.int .i64 (x : Int), .int .u64 (y : Int)] 127) := ⟨_, rfl⟩
                have HOw : Hid (vB.ownsRow w.heap.size 127 2 (.slice aI ni cI) ni (cells2 it1)) := hid0 (by rw [hvB]; exact World.ownsRow.alloc hown _)
                have HNw : Hid (∀ j u, (cells2 [(x, y)])[j]? = some u → vB.cell? ((⟨V.heap.size, 0, none⟩ : Addr).add j) = some u) := hid0 (by rw [hvB]; exact cell_two_new _ _ _ _)
                have HLw : Hid (w.heap.size ≤ vB.heap.size) := hid0 (by rw [hvB]; have := hM1.only.size; simp; omega)
                have hVB : Below V.heap.size V vB := by rw [hvB]; exact ((Below.refl _ _).drew).alloc (Nat.le_refl _) _
                have dV : V.cell? ⟨J, 4, none⟩ = some (.slice aI ni cI) := dI
                have dB : vB.cell? ⟨J, 4, none⟩ = some (.slice aI ni cI) := (hVB.cell (p := ⟨J, 4, none⟩) (World.block_lt_of_cell? V _ dV)).trans dV
                have zB : vB.cell? ⟨G, x, none⟩ = some (.int .u64 (y : Int)) := (hVB.cell (p := ⟨G, x, none⟩) (World.block_lt_of_cell? V _ zG)).trans zG
                have HNx : Hid (∀ (v' : Value) (w2 : World), w2.ownsRow w.heap.size 127 2 v' (ni + 1) (cells2 it1 ++ cells2 [(x, y)]) → vB.grownBy w2 (Value.slice aI ni cI).ownBlock → (v'.ownBlock = (Value.slice aI ni cI).ownBlock ∨ v'.ownBlock = some vB.heap.size) → (w2.cell? ⟨J, 4, none⟩ = some (.slice aI ni cI) ∧ w2.frozen? ⟨J, 4, none⟩ = false) ∧ AlI w J sy vO vF vE vZ vP vC vS vA G sy H1 mt (.slice (some ⟨gT, 0, none⟩) nT cT) (it1 ++ [(x, y)]) en0 (w2.setCell ⟨J, 4, none⟩ v')) := hid0 (fun v' w2 h1 h2 h3 => by
                  rw [hvB] at h2 h3
                  exact hnx v' w2 (x, y) (apL_one (by rw [← hni]; exact h1) h2 h3))
                have HPt : Hid (∀ V1 : World, AlI w J sy vO vF vE vZ vP vC vS vA G sy H1 mt (.slice (some ⟨gT, 0, none⟩) nT cT) (it1 ++ [(x, y)]) en0 V1 → (V1.cell? ⟨G, x, none⟩ = some (.int .u64 (y : Int)) ∧ V1.frozen? ⟨G, x, none⟩ = false) ∧ AlI w J sy vO vF vE vZ vP vC vS vA G sy (hzF mt H (m + 1)) mt (.slice (some ⟨gT, 0, none⟩) nT cT) (it0 ++ itF mt H (m + 1)) en0 (V1.setCell ⟨G, x, none⟩ (.int .u64 0))) := hid0 (fun V1 h => by
                  have q := h.hv.at' hxs
                  rw [hy1] at q
                  have h2 := h.putH hxs 0
                  rw [HE1.out, HE2.out] at h2
                  exact ⟨q, h2⟩)
                have hxI : (x : Int) < (sy : Int) := by omega
                have hxI0 : (0 : Int) ≤ (x : Int) := by omega
                have hmI : (m : Int) < (nT : Int) := by omega
                have hmI0 : (0 : Int) ≤ (m : Int) := by omega
                have gB := hvB.symm
                clear hvB hVB hnx hown dI HM hM1 hH1 hit1 hni hy hy1 HE1 HE2 hx hxm hml2
                go_upto_region 19 with (fail)
                go_region_law ((refine step_append_own_at (by rfl) _ _ 87 (by rfl) w.heap.size 127 l0 _ 2 16 Tryd.underlying87 hl hy0 hy1 hy2 rfl (by decide) (.slice aI ni cI) ni (cells2 it1) (by rfl) HOw.out ⟨V.heap.size, 0, none⟩ 1 1 (cells2 [(x, y)]) (by rfl) (by rfl) HNw.out (cells2_one _) (by unfold maxLen; omega) (by omega) HLw.out ?_; intro v' w2 h1 h2 h3; obtain ⟨a2, c2, rfl⟩ := own_sl h1; have R := hid0 (HNx.out _ _ h1 ⟨h2.os, h2.tape, h2.output, h2.size, h2.block⟩ h3); clear h1 h2 h3; have t1 := R.out.1.1; have t2 := R.out.1.2))
                all_goals
                  have HR := hid0 (HPt.out _ R.out.2)
                  clear R t1 t2
                  generalize w2.setCell ⟨J, 4, none⟩ (.slice a2 (ni + 1) c2) = w3 at *
                  obtain ⟨r1, r2⟩ := HR.out.1
                  go_wp2
                  go_roundw
                  case rel => exact ⟨m + 1, by omega, by go_num, hid0 HR.out.2⟩
                  case measure => simp [intOf]; omega
              · obtain rfl : m = nT := by omega
                have hM1 := HM.out
                rw [HNT.out, hzF_end mt H HMt.out.2.1] at hM1
                have e1 : it0 ++ itF mt H mt.length = (LTs LE (i + 1)).flatten := by
                  rw [LTs_succ, List.flatten_append, HRow.out, ← HIt.out.1]
                  unfold itF
                  rw [List.take_length]
                  simp
                rw [e1, ← HNT.out] at hM1
                have HCe := hid0 (hM1.endRow (Nat.le_trans (LTs_small LE (i + 1)) (by have := HSum.out; omega)) (by have := HItl.out.2; omega))
                have e2 : en0 ++ [(LTs LE (i + 1)).flatten.length] = endsN (LTs LE (i + 1)) := by rw [LTs_succ, endsN_snoc, ← HIt.out.2]
                rw [e2] at HCe
                have HNl : Hid (n - 64 = (LE.drop (64 * (i + 1))).length ∧ 64 * (i + 1) < LE.length + 64 ∧ LtA w J (if c = 64 then some ⟨b0, off, none⟩ else some ⟨b0, off + 64, none⟩) (LE.drop (64 * (i + 1)))) := hid0 (by
                  obtain ⟨q1, q2, q3⟩ := HI.out
                  have q4 := q3.rest 64 c (by rw [← q1]; exact hnc)
                  rw [List.length_drop] at q1
                  have e3 : (LE.drop (64 * i)).drop 64 = LE.drop (64 * (i + 1)) := by
                    rw [List.drop_drop]
                    congr 1
                  rw [e3] at q4
                  exact ⟨by rw [List.length_drop]; omega, by omega, q4⟩)
                clear e1 e2 hM1 HM
                go_wp2_with (go_at_call 72; go_loud ((refine HCe.out.mono ?_; rintro e w4 ⟨⟨v4, rfl⟩, HA4⟩)))
                go_roundw
                case rel => exact ⟨i + 1, _, _, _, rfl, by omega, by omega, hid0 (by have q := HNl.out; exact q), hid0 ⟨_, HA4.out⟩⟩
                case measure => (show n - 64 < n); omega
end Go.Proofs.YtleeedjpccooaaaDoor
namespace Go.Proofs.YtleeedjpccooaaaDoor
open Go.RowKit Go.Shelf
/-- A pattern. -/
structure Pt where
  le : List (List Nat)
  fi : List Nat
  la : List Nat
  fo : List (List Nat)
  em : Bool
  an : Bool
/-- Many patterns as one. -/
structure Jn where
  own : List Nat
  FO : List (List (Nat × Nat))
  la : Nat → Bool
  op : Nat → Bool
  cl : Nat → Bool
  at0 : List Nat
  alw : List Nat
  LE : List (List Nat)
def jNil : Jn := ⟨[], [], fun _ => false, fun _ => false, fun _ => false, [], [], []⟩
def jStep (j : Jn) (nm : Nat) (p : Pt) : Jn where
  own := j.own ++ List.replicate p.fo.length nm
  FO := j.FO ++ p.fo.map (rowW j.own.length)
  la := setL j.la j.own.length p.la
  op := if p.an then j.op else setL j.op j.own.length p.fi
  cl := if p.an then setL j.cl j.own.length p.fi else j.cl
  at0 := if p.em then j.at0 ++ [nm] else j.at0
  alw := if p.em && !p.an then j.alw ++ [nm] else j.alw
  LE := j.LE ++ p.le
/-- The first k patterns, joined. -/
def jAcc (ps : List Pt) : Nat → Jn
  | 0 => jNil
  | k + 1 => match ps[k]? with
    | none => jAcc ps k
    | some p => jStep (jAcc ps k) k p
theorem jAcc_succ {ps : List Pt} {k : Nat} (h : k < ps.length) : jAcc ps (k + 1) = jStep (jAcc ps k) k ps[k] := by
  rw [jAcc, List.getElem?_eq_getElem h]
/-- What places.Check asks of it. -/
structure PtOk (sy : Nat) (p : Pt) : Prop where
  fo : p.fo.length = p.le.length
  fi' : ∀ x ∈ p.fi, x < p.le.length
  la' : ∀ x ∈ p.la, x < p.le.length
  fo' : ∀ l ∈ p.fo, ∀ x ∈ l, x < p.le.length
  le' : ∀ l ∈ p.le, ∀ c ∈ l, c < sy
/-- So many places. -/
def plN (ps : List Pt) (k : Nat) : Nat := ((ps.take k).map fun p => p.le.length).sum
theorem plN_succ {ps : List Pt} {k : Nat} (h : k < ps.length) : plN ps (k + 1) = plN ps k + (ps[k]).le.length := by
  unfold plN
  rw [List.take_add_one, List.getElem?_eq_getElem h, Option.toList_some, List.map_append, List.sum_append]
  simp
theorem plN_le (ps : List Pt) (k : Nat) : plN ps k ≤ plN ps ps.length := by
  unfold plN
  rw [List.take_length]
  have h := congrArg (fun M => (M.map fun p : Pt => p.le.length).sum) (List.take_append_drop k ps)
  simp only [List.map_append, List.sum_append] at h
  omega
/-- All numbers of so many patterns' Follow, and of their letters. -/
def foN (ps : List Pt) (k : Nat) : Nat := ((ps.take k).map fun p => (p.fo.map List.length).sum).sum
def leN (ps : List Pt) (k : Nat) : Nat := ((ps.take k).map fun p => (p.le.map List.length).sum).sum
theorem foN_succ {ps : List Pt} {k : Nat} (h : k < ps.length) : foN ps (k + 1) = foN ps k + ((ps[k]).fo.map List.length).sum := by
  unfold foN
  rw [List.take_add_one, List.getElem?_eq_getElem h, Option.toList_some, List.map_append, List.sum_append]
  simp
theorem leN_succ {ps : List Pt} {k : Nat} (h : k < ps.length) : leN ps (k + 1) = leN ps k + ((ps[k]).le.map List.length).sum := by
  unfold leN
  rw [List.take_add_one, List.getElem?_eq_getElem h, Option.toList_some, List.map_append, List.sum_append]
  simp
theorem foN_le (ps : List Pt) (k : Nat) : foN ps k ≤ foN ps ps.length := by
  unfold foN
  rw [List.take_length]
  have h := congrArg (fun M => (M.map fun p : Pt => (p.fo.map List.length).sum).sum) (List.take_append_drop k ps)
  simp only [List.map_append, List.sum_append] at h
  omega
theorem leN_le (ps : List Pt) (k : Nat) : leN ps k ≤ leN ps ps.length := by
  unfold leN
  rw [List.take_length]
  have h := congrArg (fun M => (M.map fun p : Pt => (p.le.map List.length).sum).sum) (List.take_append_drop k ps)
  simp only [List.map_append, List.sum_append] at h
  omega
/-- What is true of patterns once joined, over N words of places. -/
structure JnOk (j : Jn) (sy N : Nat) : Prop where
  fo : j.FO.length = j.own.length
  le : j.LE.length = j.own.length
  fo' : ∀ r ∈ j.FO, ∀ x ∈ r, x.1 < N ∧ x.2 < 18446744073709551616
  la' : ∀ q, j.la q = true → q < j.own.length
  op' : ∀ q, j.op q = true → q < j.own.length
  cl' : ∀ q, j.cl q = true → q < j.own.length
  le' : ∀ l ∈ j.LE, ∀ c ∈ l, c < sy
theorem setL_lt {R : Nat → Bool} {base n : Nat} {L : List Nat} (h : ∀ q, R q = true → q < base) (hL : ∀ x ∈ L, x < n) : ∀ q, setL R base L q = true → q < base + n := by
  intro q hq
  unfold setL at hq
  rw [Bool.or_eq_true, List.any_eq_true] at hq
  rcases hq with ⟨p, hp, e⟩ | hq
  · have := hL p hp
    have := of_decide_eq_true e
    omega
  · have := h q hq
    omega
theorem JnOk.step {j : Jn} {sy N : Nat} (h : JnOk j sy N) {p : Pt} (hp : PtOk sy p) (nm : Nat) (hN : j.own.length + p.le.length ≤ 64 * N) : JnOk (jStep j nm p) sy N := by
  have hlen : (jStep j nm p).own.length = j.own.length + p.le.length := by show (j.own ++ List.replicate p.fo.length nm).length = _; rw [List.length_append, List.length_replicate, hp.fo]
  refine ⟨?_, ?_, ?_, ?_, ?_, ?_, ?_⟩
  · rw [hlen]; show (j.FO ++ p.fo.map (rowW j.own.length)).length = _; rw [List.length_append, List.length_map, h.fo, hp.fo]
  · rw [hlen]; show (j.LE ++ p.le).length = _; rw [List.length_append, h.le]
  · intro r hr
    rcases List.mem_append.1 hr with h1 | h1
    · exact h.fo' r h1
    · obtain ⟨l, hl, rfl⟩ := List.mem_map.1 h1
      exact rowW_ok _ N l (fun x hx => by have := hp.fo' l hl x hx; omega)
  · rw [hlen]; exact setL_lt h.la' hp.la'
  · rw [hlen]
    intro q hq
    show q < j.own.length + p.le.length
    change (if p.an = true then j.op else setL j.op j.own.length p.fi) q = true at hq
    split at hq
    · have := h.op' q hq; omega
    · exact setL_lt h.op' hp.fi' q hq
  · rw [hlen]
    intro q hq
    show q < j.own.length + p.le.length
    change (if p.an = true then setL j.cl j.own.length p.fi else j.cl) q = true at hq
    split at hq
    · exact setL_lt h.cl' hp.fi' q hq
    · have := h.cl' q hq; omega
  · intro l hl
    rcases List.mem_append.1 hl with h1 | h1
    · exact h.le' l h1
    · exact hp.le' l h1
theorem jAcc_own {ps : List Pt} {sy : Nat} (hp : ∀ p ∈ ps, PtOk sy p) : ∀ k, k ≤ ps.length → (jAcc ps k).own.length = plN ps k
  | 0, _ => by simp [jAcc, jNil, plN]
  | k + 1, hk => by
    rw [jAcc_succ (by omega), plN_succ (by omega), ← jAcc_own hp k (by omega)]
    show ((jAcc ps k).own ++ List.replicate (ps[k]).fo.length k).length = _
    rw [List.length_append, List.length_replicate, (hp _ (List.getElem_mem (by omega))).fo]
theorem jAcc_ok {ps : List Pt} {sy N : Nat} (hp : ∀ p ∈ ps, PtOk sy p) (hN : plN ps ps.length ≤ 64 * N) : ∀ k, k ≤ ps.length → JnOk (jAcc ps k) sy N
  | 0, _ => by
    refine ⟨rfl, rfl, ?_, ?_, ?_, ?_, ?_⟩ <;> simp [jAcc, jNil]
  | k + 1, hk => by
    rw [jAcc_succ (by omega)]
    refine (jAcc_ok hp hN k (by omega)).step (hp _ (List.getElem_mem (by omega))) k ?_
    rw [jAcc_own hp k (by omega), ← plN_succ (by omega)]
    exact Nat.le_trans (plN_le ps (k + 1)) hN
theorem jAcc_fo (ps : List Pt) : ∀ k, k ≤ ps.length → (jAcc ps k).FO.flatten.length ≤ foN ps k
  | 0, _ => by simp [jAcc, jNil, foN]
  | k + 1, hk => by
    have h1 := jAcc_fo ps k (by omega)
    rw [jAcc_succ (by omega), foN_succ (by omega)]
    show ((jAcc ps k).FO ++ (ps[k]).fo.map (rowW (jAcc ps k).own.length)).flatten.length ≤ _
    have h2 := FOs_len (jAcc ps k).FO (jAcc ps k).own.length (ps[k]).fo (ps[k]).fo.length (Nat.le_refl _)
    unfold FOs at h2
    rw [List.take_length] at h2
    omega
theorem jAcc_le (ps : List Pt) : ∀ k, k ≤ ps.length → ((jAcc ps k).LE.map List.length).sum = leN ps k
  | 0, _ => by simp [jAcc, jNil, leN]
  | k + 1, hk => by
    rw [jAcc_succ (by omega), leN_succ (by omega), ← jAcc_le ps k (by omega)]
    show (((jAcc ps k).LE ++ (ps[k]).le).map List.length).sum = _
    rw [List.map_append, List.sum_append]
theorem jAcc_nums (ps : List Pt) : ∀ k, k ≤ ps.length → (jAcc ps k).at0.length ≤ k ∧ (jAcc ps k).alw.length ≤ k
  | 0, _ => ⟨Nat.le_refl _, Nat.le_refl _⟩
  | k + 1, hk => by
    obtain ⟨h1, h2⟩ := jAcc_nums ps k (by omega)
    rw [jAcc_succ (by omega)]
    constructor
    · show (if (ps[k]).em then (jAcc ps k).at0 ++ [k] else (jAcc ps k).at0).length ≤ _
      split
      · simp; omega
      · omega
    · show (if (ps[k]).em && !(ps[k]).an then (jAcc ps k).alw ++ [k] else (jAcc ps k).alw).length ≤ _
      split
      · simp; omega
      · omega
/-- Joined in memory, while patterns come. -/
def JoY (W : World) (J sy lo : Nat) (vL vM vZ vP vC : Value) (N : Nat) (j : Jn) : Prop := JoX W J sy lo vL vM vZ vP vC j.own j.FO N j.la j.op j.cl j.at0 j.alw
theorem addP_any (J sy lo nm N GZ GP GC cZ cP cC cL cF cA cO nL : Nat) (aL aF aA aO : Option Addr) (vL vM : Value) (j : Jn) (p : Pt) (w00 w : World)
    (hJ : JoY w J sy lo vL vM (.slice (some ⟨GZ, 0, none⟩) N cZ) (.slice (some ⟨GP, 0, none⟩) N cP) (.slice (some ⟨GC, 0, none⟩) N cC) N j) (hlo : lo ≤ J) (hlw : lo ≤ w.heap.size) (hP : PaA w00 aF aA aO p.fi p.la p.fo) (h00 : w00.heap.size ≤ lo) (hb00 : Below w00.heap.size w00 w) (hN : N ≤ 1000000) (hok : JnOk j sy N) (hp : PtOk sy p) (hol : j.own.length + p.le.length ≤ 64 * N) (hnm : nm ≤ 1000000000) (ha0 : j.at0.length ≤ 100000000) (hal : j.alw.length ≤ 100000000)
    (hl1 : p.fi.length ≤ 100000000) (hl2 : p.la.length ≤ 100000000) (hsum : j.FO.flatten.length + (p.fo.map List.length).sum ≤ 900000000) :
    Calls Tryd.prog 51 #[.pointer (some ⟨J, 0, none⟩), .int .i64 (nm : Int), .agg #[.slice aL nL cL, .slice aF p.fi.length cF, .slice aA p.la.length cA, .slice aO p.fo.length cO, .bool p.em, .bool p.an]] w fun e w' => (∃ v, e = .returned v) ∧ Hid (Below lo w w' ∧ KeT w w' ∧ JoY w' J sy lo vL vM (.slice (some ⟨GZ, 0, none⟩) N cZ) (.slice (some ⟨GP, 0, none⟩) N cP) (.slice (some ⟨GC, 0, none⟩) N cC) N (jStep j nm p)) := by
  have h1 : ∀ x ∈ p.fi, j.own.length + x < 64 * N := fun x hx => by have := hp.fi' x hx; omega
  have h2 : ∀ x ∈ p.la, j.own.length + x < 64 * N := fun x hx => by have := hp.la' x hx; omega
  have h3 : ∀ l ∈ p.fo, ∀ x ∈ l, j.own.length + x < 64 * N := fun l hl x hx => by have := hp.fo' l hl x hx; omega
  have h4 : j.own.length + p.fo.length ≤ 64 * N := by rw [hp.fo]; exact hol
  have h5 : j.FO.length ≤ 64000000 := by rw [hok.fo]; omega
  cases han : p.an with
  | false =>
    refine (add_false J sy lo nm N GZ GP GC cZ cP cC cL cF cA cO nL aL aF aA aO p.em vL vM j.own j.FO j.la j.op j.cl j.at0 j.alw p.fi p.la p.fo w00 w hJ hlo hlw hP h00 hb00 hN h4 hnm hok.fo' h5 ha0 hal h1 h2 h3 hl1 hl2 hsum).mono (fun e w' ⟨q1, ⟨q2, q3⟩, q4⟩ => ⟨q1, hid0 ⟨q2, q3, ?_⟩⟩)
    unfold JoY jStep
    rw [han]
    simpa using q4
  | true =>
    refine (add_true J sy lo nm N GZ GP GC cZ cP cC cL cF cA cO nL aL aF aA aO p.em vL vM j.own j.FO j.la j.op j.cl j.at0 j.alw p.fi p.la p.fo w00 w hJ hlo hlw hP h00 hb00 hN h4 hnm hok.fo' h5 ha0 hal h1 h2 h3 hl1 hl2 hsum).mono (fun e w' ⟨q1, ⟨q2, q3⟩, q4⟩ => ⟨q1, hid0 ⟨q2, q3, ?_⟩⟩)
    unfold JoY jStep
    rw [han]
    simpa using q4
end Go.Proofs.YtleeedjpccooaaaDoor
namespace Go.Proofs.YtleeedjpccooaaaDoor
open Go.RowKit Go.Shelf
theorem chooseW {P : Nat → Value → Prop} : ∀ n, (∀ k, k < n → ∃ u, P k u) → ∃ us : List Value, us.length = n ∧ ∀ k, k < n → ∃ u, us[k]? = some u ∧ P k u
  | 0, _ => ⟨[], rfl, fun k hk => absurd hk (Nat.not_lt_zero _)⟩
  | n + 1, h => by
    obtain ⟨us, h1, h2⟩ := chooseW n (fun k hk => h k (by omega))
    obtain ⟨u, hu⟩ := h n (by omega)
    refine ⟨us ++ [u], by simp [h1], fun k hk => ?_⟩
    by_cases hkn : k = n
    · subst hkn
      exact ⟨u, by rw [← h1]; simp, hu⟩
    · obtain ⟨x, hx, hP⟩ := h2 k (by omega)
      exact ⟨x, by rw [List.getElem?_append_left (by omega)]; exact hx, hP⟩
/-- A row of one's own that holds lists which lay there before. -/
structure LrO (w00 W : World) (lo : Nat) (v : Value) (LE : List (List Nat)) : Prop where
  own : ∃ VS, W.ownsRow lo 34 1 v LE.length VS ∧ ∀ k (h : k < LE.length), ∃ a1 c1, VS[k]? = some (.slice a1 (LE[k]).length c1) ∧ IA w00 a1 (nI LE[k])
theorem LrO.kept {w00 W W' : World} {lo : Nat} {v : Value} {LE : List (List Nat)} (h : LrO w00 W lo v LE) (hk : ∀ k, v.ownBlock = some k → W'.heap[k]? = W.heap[k]?) : LrO w00 W' lo v LE := by
  obtain ⟨VS, h1, h2⟩ := h.own
  exact ⟨VS, own_blk h1 hk, h2⟩
set_option maxRecDepth 10000 in
theorem wpList_spreadW {ops : Array Oper} {rest : List Oper} {op : Oper} {a : Act} {w w00 : World} {Q : Exit → Act → World → Prop} (hgd : op.guard = none) (s x : Operand) (ho : op.op = .call { callee := .builtin .append, args := #[s, x], argTypes := #[26, 26] })
    (v : Value) (L M : List (List Nat)) (aX : Option Addr) (n cX lo : Nat) (hs : a.eval s = v) (hx : a.eval x = .slice aX n cX) (hn : n = M.length) (hnil : aX = none → cX = 0) (hv : LrO w00 w lo v L) (ha : RwA w00 aX (M.map nI)) (hb : Below w00.heap.size w00 w) (hl : L.length + M.length ≤ 1000000000) (hlo : lo ≤ w.heap.size)
    (h : ∀ v' w', LrO w00 w' lo v' (L ++ M) → w.grownBy w' v.ownBlock → wpList Tryd.prog ops Q rest (a.put op.dst v') w') : wpList Tryd.prog ops Q (op :: rest) a w := by
  obtain ⟨i0, hi, hz0, hz1, hz2⟩ := info_parts infoIntsM
  obtain ⟨VS, hv1, hv2⟩ := hv.own
  subst hn
  cases aX with
  | none =>
    have hM : M = [] := by
      cases M with
      | nil => rfl
      | cons y r => obtain ⟨b, off, e, _⟩ := ha.at' 0 (by simp); cases e
    subst hM
    have hc := hnil rfl
    subst hc
    refine wpList_append_own_none hgd s x 26 ho lo 34 i0 1 Tryd.underlying26 hi v L.length VS hs hv1 hx (h v w (by rw [List.append_nil]; exact hv) ⟨rfl, rfl, rfl, Nat.le_refl _, fun _ _ _ => rfl⟩)
  | some ad =>
    obtain ⟨us, hu1, hu2⟩ := chooseW (P := fun k u => ∃ (hk : k < M.length) (b off : Nat) (a1 : Option Addr) (c1 : Nat), ad = ⟨b, off, none⟩ ∧ w00.cell? ⟨b, off + k, none⟩ = some u ∧ u = .slice a1 (M[k]).length c1 ∧ IA w00 a1 (nI M[k]) ∧ b < w00.heap.size) M.length (fun k hk => by
      obtain ⟨b, off, e, hbl, a1, c1, h1, h2⟩ := ha.at' k (by rw [List.length_map]; exact hk)
      injection e with e
      rw [List.getElem_map, nI_len] at h1
      rw [List.getElem_map] at h2
      exact ⟨_, hk, b, off, a1, c1, e, h1, rfl, h2, hbl⟩)
    have hone : ∀ u ∈ us, u.oneCell' = true := fun u hu => by
      obtain ⟨k, hk, e⟩ := List.getElem_of_mem hu
      obtain ⟨u', e1, _, b, off, a1, c1, _, _, e2, _⟩ := hu2 k (by omega)
      rw [List.getElem?_eq_getElem hk, e] at e1
      injection e1 with e1
      rw [e1, e2]; rfl
    refine wpList_append_own _ hgd s x 26 ho lo 34 i0 (.slice none 0 0) 1 24 Tryd.underlying26 hi hz0 hz1 hz2 rfl (by decide) v L.length VS hs hv1 ad M.length cX us hx (by omega) (fun j u hj => ?_) hone (by unfold maxLen; omega) (by omega) hlo (fun v' w' h1 h2 _ => h v' w' ⟨VS ++ us, by rw [List.length_append]; exact h1, fun k hk => ?_⟩ h2)
    · have hjl : j < us.length := (List.getElem?_eq_some_iff.1 hj).1
      obtain ⟨u', e1, _, b, off, a1, c1, e2, e3, _, _, hbl⟩ := hu2 j (by omega)
      rw [hj] at e1
      injection e1 with e1
      subst e2
      rw [e1, Addr.add_mid]
      exact (hb.cell (p := ⟨b, off + j, none⟩) hbl).trans e3
    · have hVl : VS.length = L.length := by have := hv1.1; omega
      by_cases hkL : k < L.length
      · obtain ⟨a1, c1, e1, e2⟩ := hv2 k hkL
        refine ⟨a1, c1, ?_, ?_⟩
        · rw [List.getElem?_append_left (by omega), e1, List.getElem_append_left hkL]
        · rw [List.getElem_append_left hkL]; exact e2
      · have hk2 : k - L.length < M.length := by rw [List.length_append] at hk; omega
        obtain ⟨u', e1, _, b, off, a1, c1, _, _, e2, e3, _⟩ := hu2 (k - L.length) hk2
        refine ⟨a1, c1, ?_, ?_⟩
        · rw [List.getElem?_append_right (by omega), hVl, e1, e2, List.getElem_append_right (by omega)]
        · rw [List.getElem_append_right (by omega)]; exact e3
/-- Patterns in memory. -/
structure PaL (w : World) (a : Option Addr) (ps : List Pt) : Prop where
  at' : ∀ k (h : k < ps.length), ∃ b off, a = some ⟨b, off, none⟩ ∧ b < w.heap.size ∧ ∃ (aL aF aA aO : Option Addr) (cL cF cA cO : Nat), w.cell? ⟨b, off + k * 6, none⟩ = some (.slice aL (ps[k]).le.length cL) ∧ w.cell? ⟨b, off + k * 6 + 1, none⟩ = some (.slice aF (ps[k]).fi.length cF) ∧ w.cell? ⟨b, off + k * 6 + 2, none⟩ = some (.slice aA (ps[k]).la.length cA) ∧ w.cell? ⟨b, off + k * 6 + 3, none⟩ = some (.slice aO (ps[k]).fo.length cO) ∧ w.cell? ⟨b, off + k * 6 + 4, none⟩ = some (.bool (ps[k]).em) ∧ w.cell? ⟨b, off + k * 6 + 5, none⟩ = some (.bool (ps[k]).an) ∧ RwA w aL ((ps[k]).le.map nI) ∧ (aL = none → cL = 0) ∧ PaA w aF aA aO (ps[k]).fi (ps[k]).la (ps[k]).fo
end Go.Proofs.YtleeedjpccooaaaDoor
namespace Go.Proofs.YtleeedjpccooaaaDoor
open Go.RowKit Go.Shelf
/-- Patterns that are joined, in memory. -/
structure JoF (W : World) (J sy lo N : Nat) (j : Jn) : Prop where
  lo' : lo ≤ J
  jo : ∃ vO vF vE vL vM GZ GP GC cZ cP cC vS vA, JoS W J sy lo vO vF vE vL vM (.slice (some ⟨GZ, 0, none⟩) N cZ) (.slice (some ⟨GP, 0, none⟩) N cP) (.slice (some ⟨GC, 0, none⟩) N cC) vS vA j.own j.FO.flatten (endsN j.FO) N j.la j.op j.cl j.at0 j.alw ∧ RwW W vF vE j.FO ∧ RwW W vL vM (LTs j.LE N)
/-- While they come: joined, the letters, the frame. -/
structure JfI (w : World) (J sy N GZ GP GC : Nat) (j : Jn) (vT : Value) (W : World) : Prop where
  bel : Below w.heap.size w W
  jo : JoY W J sy w.heap.size (.slice none 0 0) (.slice none 0 0) (.slice (some ⟨GZ, 0, none⟩) N N) (.slice (some ⟨GP, 0, none⟩) N N) (.slice (some ⟨GC, 0, none⟩) N N) N j
  lt : LrO w W w.heap.size vT j.LE
theorem JoY.empty {w W : World} {J sy N T GO GZ GP GC : Nat} (hJ : W.heap[J]? = some (.cells #[.int .i64 (sy : Int), .slice (some ⟨GO, 0, none⟩) 0 T, .slice none 0 0, .slice none 0 0, .slice none 0 0, .slice none 0 0, .slice (some ⟨GZ, 0, none⟩) N N, .slice (some ⟨GP, 0, none⟩) N N, .slice (some ⟨GC, 0, none⟩) N N, .slice none 0 0, .slice none 0 0] 91 (0, 0)))
    (hO : W.heap[GO]? = some (.cells (madeCells #[.int .i64 0] T) 3 (0, 0))) (hZ : W.heap[GZ]? = some (.cells (madeCells #[.int .u64 0] N) 105 (0, 0))) (hP : W.heap[GP]? = some (.cells (madeCells #[.int .u64 0] N) 105 (0, 0))) (hC : W.heap[GC]? = some (.cells (madeCells #[.int .u64 0] N) 105 (0, 0)))
    (hT : T ≤ 64000000) (hN : N ≤ 1000000) (h1 : w.heap.size ≤ GO) (h2 : w.heap.size ≤ GZ) (h3 : w.heap.size ≤ GP) (h4 : w.heap.size ≤ GC) (n1 : GZ ≠ GP) (n2 : GZ ≠ GC) (n3 : GP ≠ GC) : JoY W J sy w.heap.size (.slice none 0 0) (.slice none 0 0) (.slice (some ⟨GZ, 0, none⟩) N N) (.slice (some ⟨GP, 0, none⟩) N N) (.slice (some ⟨GC, 0, none⟩) N N) N jNil := by
  have hu : ∀ G, W.heap[G]? = some (.cells (madeCells #[.int .u64 0] N) 105 (0, 0)) → w.heap.size ≤ G → OwnU W w.heap.size (.slice (some ⟨G, 0, none⟩) N N) N (fun _ => false) := fun G hG hb => by
    unfold OwnU
    rw [wdV_none]
    refine ⟨by simp, .inr ⟨G, N, _, rfl, hb, hG, Nat.le_refl _, by unfold maxLen; omega, by rw [size_madeCells]; simp, ?_⟩⟩
    apply List.ext_getElem
    · simp [size_madeCells]
    · intro k q1 q2
      simp [madeCells, Nat.mod_one]
  have hne : ∀ {a b : Nat} {c d e f : Nat}, a ≠ b → Apt (.slice (some ⟨a, 0, none⟩) c d) (.slice (some ⟨b, 0, none⟩) e f) := fun h k h1 h2 => by
    simp only [Value.ownBlock, Option.some.injEq] at h1 h2
    exact h (h1.trans h2.symm)
  have hn0 : ∀ v : Value, Apt v (.slice none 0 0) := fun v k _ h => by cases h
  have hn1 : ∀ v : Value, Apt (.slice none 0 0) v := fun v k h => by cases h
  refine ⟨_, _, _, _, _, ⟨⟨hJ⟩, ?_, World.ownsRow_nil _ _ _ _, World.ownsRow_nil _ _ _ _, hu GZ hZ h2, hu GP hP h3, hu GC hC h4, World.ownsRow_nil _ _ _ _, World.ownsRow_nil _ _ _ _, hn0 _, hn0 _, hn0 _, hn0 _, hn0 _, hn0 _, hne n1, hne n2, hne n3⟩, fun _ => rfl⟩
  exact ⟨by simp [nI, jNil], .inr ⟨GO, T, _, rfl, h1, hO, by simp [nI, jNil], by unfold maxLen; omega, by rw [size_madeCells]; simp, by simp [nI, jNil]⟩⟩
theorem alloc5 (W : World) (o0 o1 o2 o3 o4 : Obj) : ((((((W.alloc o0).alloc o1).alloc o2).alloc o3).alloc o4).drew).heap[W.heap.size]? = some o0 ∧ ((((((W.alloc o0).alloc o1).alloc o2).alloc o3).alloc o4).drew).heap[W.heap.size + 1]? = some o1 ∧ ((((((W.alloc o0).alloc o1).alloc o2).alloc o3).alloc o4).drew).heap[W.heap.size + 1 + 1]? = some o2 ∧ ((((((W.alloc o0).alloc o1).alloc o2).alloc o3).alloc o4).drew).heap[W.heap.size + 1 + 1 + 1]? = some o3 ∧ ((((((W.alloc o0).alloc o1).alloc o2).alloc o3).alloc o4).drew).heap[W.heap.size + 1 + 1 + 1 + 1]? = some o4 := by
  have e : ((((((W.alloc o0).alloc o1).alloc o2).alloc o3).alloc o4).drew).heap = ((((W.heap.push o0).push o1).push o2).push o3).push o4 := rfl
  have h1 : ∀ (a : Array Obj) (x : Obj), (a.push x)[a.size]? = some x := fun a x => by simp
  have h2 : ∀ (a : Array Obj) (x : Obj) (k : Nat), k < a.size → (a.push x)[k]? = a[k]? := fun a x k h => by rw [Array.getElem?_push, if_neg (by omega)]
  have s1 : (W.heap.push o0).size = W.heap.size + 1 := by simp
  have s2 : ((W.heap.push o0).push o1).size = W.heap.size + 1 + 1 := by simp
  have s3 : (((W.heap.push o0).push o1).push o2).size = W.heap.size + 1 + 1 + 1 := by simp
  have s4 : ((((W.heap.push o0).push o1).push o2).push o3).size = W.heap.size + 1 + 1 + 1 + 1 := by simp
  rw [e]
  refine ⟨?_, ?_, ?_, ?_, ?_⟩
  · rw [h2 _ _ _ (by omega), h2 _ _ _ (by omega), h2 _ _ _ (by omega), h2 _ _ _ (by omega), h1]
  · rw [h2 _ _ _ (by omega), h2 _ _ _ (by omega), h2 _ _ _ (by omega), ← s1, h1]
  · rw [h2 _ _ _ (by omega), h2 _ _ _ (by omega), ← s2, h1]
  · rw [h2 _ _ _ (by omega), ← s3, h1]
  · rw [← s4, h1]
theorem JoS.other {W W' : World} {J sy lo lo' : Nat} {vO vF vE vL vM vZ vP vC vS vA : Value} {own : List Nat} {it : List (Nat × Nat)} {en : List Nat} {N : Nat} {la op cl : Nat → Bool} {at0 alw : List Nat} {t : TypeId} {s n : Nat} {v : Value} {xs : List Value} (h : JoS W J sy lo vO vF vE vL vM vZ vP vC vS vA own it en N la op cl at0 alw) (hv : W.ownsRow lo' t s v n xs) (ht : t ≠ 3 ∧ t ≠ 105 ∧ t ≠ 130 ∧ t ≠ 91) (hO : Only W W' (fun k => v.ownBlock = some k)) : JoS W' J sy lo vO vF vE vL vM vZ vP vC vS vA own it en N la op cl at0 alw := by
  have k : ∀ {t' : TypeId} {s' n' : Nat} {u : Value} {ys : List Value}, W.ownsRow lo t' s' u n' ys → t' ≠ t → W'.ownsRow lo t' s' u n' ys := fun ho hne => own_blk ho (fun k hk => hO.block k (World.ownsRow.lt ho k hk).2 (Apt.ofTyp ho hv hne k hk))
  exact ⟨⟨(hO.block J (Array.getElem?_eq_some_iff.1 h.b.r).1 (own_ne_blk hv h.b.r ht.2.2.2)).trans h.b.r⟩, k h.o ht.1.symm, k h.f ht.2.2.1.symm, k h.e ht.1.symm, k h.z ht.2.1.symm, k h.p ht.2.1.symm, k h.c ht.2.1.symm, k h.s ht.1.symm, k h.a ht.1.symm, h.qoe, h.qos, h.qoa, h.qes, h.qea, h.qsa, h.qzp, h.qzc, h.qpc⟩
theorem JoS.letters {W W' : World} {J sy lo : Nat} {vO vF vE vL vM vL' vM' vZ vP vC vS vA : Value} {own : List Nat} {it : List (Nat × Nat)} {en : List Nat} {N : Nat} {la op cl : Nat → Bool} {at0 alw : List Nat} (h : JoS W J sy lo vO vF vE vL vM vZ vP vC vS vA own it en N la op cl at0 alw) (hb : Jb W' J sy vO vF vE vL' vM' vZ vP vC vS vA) (hO : Only W W' (fun k => k = J)) : JoS W' J sy lo vO vF vE vL' vM' vZ vP vC vS vA own it en N la op cl at0 alw := by
  have k : ∀ {t' : TypeId} {s' n' : Nat} {u : Value} {ys : List Value}, W.ownsRow lo t' s' u n' ys → t' ≠ 91 → W'.ownsRow lo t' s' u n' ys := fun ho hne => own_blk ho (fun k hk => hO.block k (World.ownsRow.lt ho k hk).2 (fun e => own_ne_blk ho h.b.r hne (e ▸ hk)))
  exact ⟨hb, k h.o (by decide), k h.f (by decide), k h.e (by decide), k h.z (by decide), k h.p (by decide), k h.c (by decide), k h.s (by decide), k h.a (by decide), h.qoe, h.qos, h.qoa, h.qes, h.qea, h.qsa, h.qzp, h.qzc, h.qpc⟩
theorem LrO.typ {w00 W : World} {lo : Nat} {v : Value} {LE : List (List Nat)} (h : LrO w00 W lo v LE) : ∃ VS, W.ownsRow lo 34 1 v LE.length VS := ⟨h.own.choose, h.own.choose_spec.1⟩
/-- A new block, then a pattern added: the letters stay. -/
theorem LrO.keT {w00 W W' : World} {lo : Nat} {v : Value} {LE : List (List Nat)} (h : LrO w00 W lo v LE) (hk : KeT W W') : LrO w00 W' lo v LE := h.kept (fun k hb => by
  obtain ⟨VS, h1⟩ := h.typ
  obtain ⟨cs, hcs⟩ := own_typ h1 hb
  exact hk.kp k cs _ _ hcs (by decide) (by decide) (by decide) (by decide))
theorem LrO.lta {w00 W : World} {lo J n c : Nat} {a : Option Addr} {LE : List (List Nat)} {cs0 : Array Value} {f0 : Nat × Nat} (h : LrO w00 W lo (.slice a n c) LE) (hJ : W.heap[J]? = some (.cells cs0 91 f0)) (hb : Below w00.heap.size w00 W) (hJl : w00.heap.size ≤ J) : LtA W J a LE ∧ n = LE.length ∧ LE.length ≤ c := by
  obtain ⟨VS, h1, h2⟩ := h.own
  refine ⟨⟨fun k hk => ?_⟩, ?_, ?_⟩
  · obtain ⟨g, c', e, _, hg, _⟩ := own_form h1 (by omega)
    simp only [Value.slice.injEq] at e
    obtain ⟨a1, c1, e1, e2⟩ := h2 k hk
    refine ⟨g, 0, e.1, hg, fun eq => own_ne_blk h1 hJ (by decide) (by rw [e.1, ← eq]; rfl), a1, c1, ?_, fun V hV => e2.past (hV.afterBelow hb hb.size (fun i hi => by rw [hi]; exact hJl))⟩
    rw [e.1, e.2.1] at h1
    rw [Nat.zero_add, World.ownsRow.cellAt h1 k (by omega)]
    exact e1
  · obtain ⟨a', c', e⟩ := own_sl h1
    simp only [Value.slice.injEq] at e
    exact e.2.1
  · rcases h1.2 with ⟨e, e2⟩ | ⟨g, cap, cur, e, _, _, h3, _⟩
    · omega
    · simp only [Value.slice.injEq] at e
      omega
set_option maxRecDepth 10000 in
set_option maxHeartbeats 6400000 in
theorem joinedOf_any (sy c N : Nat) (a : Option Addr) (ps : List Pt) (w : World) (hps : PaL w a ps) (hok : ∀ p ∈ ps, PtOk sy p) (hsy : sy ≤ 16384) (hpl : ps.length ≤ 10000000) (hT : plN ps ps.length ≤ 64000000) (hNe : N = (plN ps ps.length + 63) / 64) (hfo : foN ps ps.length ≤ 900000000) (hle : leN ps ps.length ≤ 900000000) (hfi : ∀ p ∈ ps, p.fi.length ≤ 100000000 ∧ p.la.length ≤ 100000000) :
    Calls Tryd.prog 28 #[.slice a ps.length c, .int .i64 (sy : Int)] w fun e w' => ∃ J, e = .returned (.pointer (some ⟨J, 0, none⟩)) ∧ JoF w' J sy w.heap.size N (jAcc ps ps.length) ∧ Below w.heap.size w w' := by
  obtain ⟨T, hTe⟩ : ∃ T, T = plN ps ps.length := ⟨_, rfl⟩
  rw [← hTe] at hT hNe
  obtain ⟨jf, hjf⟩ : ∃ jf, jf = jAcc ps ps.length := ⟨_, rfl⟩
  rw [← hjf]
  have HJf := hid0 hjf
  clear hjf
  have hNb : N ≤ 1000000 := by omega
  have HPs := hid0 hps
  have HOk := hid0 hok
  have HTe := hid0 (And.intro hTe hNe)
  have HB := hid0 (And.intro hfo (And.intro hle hfi))
  have hdiv : ((T : Int) + 64 - 1) / 64 = (N : Int) := by omega
  have hdiv2 : ((T : Int) + 63) / 64 = (N : Int) := by omega
  have hpos : (0 : Int) ≤ (T : Int) + 64 - 1 := by omega
  have hpos2 : (0 : Int) ≤ (T : Int) + 63 := by omega
  have hmk1 : ∀ V : World, (Instr.makeSlice 34 (.int .i64 0) (.int .i64 (T : Int))).run Tryd.prog V = .ok (.slice (some ⟨V.heap.size, 0, none⟩) 0 T) (V.alloc (.cells (madeCells #[.int .i64 0] T) 3)) := fun V => made_run (t := 34) Tryd.underlying34 infoInt 0 T (Nat.zero_le _) (by omega) (by omega) V
  have hmk2 : ∀ V : World, (Instr.makeSlice 83 (.int .i64 (N : Int)) (.int .i64 (N : Int))).run Tryd.prog V = .ok (.slice (some ⟨V.heap.size, 0, none⟩) N N) (V.alloc (.cells (madeCells #[.int .u64 0] N) 105)) := fun V => made_run (t := 83) Tryd.underlying83 infoU64z N N (Nat.le_refl _) (by omega) (by omega) V
  have hmk3 : ∀ V : World, (Instr.makeSlice 26 (.int .i64 0) (.int .i64 (T : Int))).run Tryd.prog V = .ok (.slice (some ⟨V.heap.size, 0, none⟩) 0 T) (V.alloc (.cells (madeCells #[.slice none 0 0] T) 34)) := fun V => made_run (t := 26) Tryd.underlying26 infoIntsM 0 T (Nat.zero_le _) (by omega) (by omega) V
  have hplI : (ps.length : Int) ≤ 10000000 := by omega
  clear hps hok hfo hle hfi hTe hNe
  go_enter Tryd.func28, Tryd.ntmps28
  go_wp2
  go_loopw [5, 15] (fun s i wr => ∃ k : Nat, k ≤ ps.length ∧ s = .int .i64 (plN ps k : Int) ∧ i = .int .i64 (k : Int) ∧ Hid (Below w.heap.size w wr)) (fun _ i _ => ps.length - (intOf i).toNat)
  case atStart => exact ⟨0, Nat.zero_le _, rfl, rfl, hid0 (Below.refl _ _)⟩
  case round =>
    obtain ⟨k, hk, rfl, rfl, HW⟩ := hrel
    by_cases hkl : k < ps.length
    · clear hmk1 hmk2 hmk3 hdiv hdiv2 hpos hpos2
      obtain ⟨b, off, eb, hbw, aL, aF, aA, aO, cL, cF, cA, cO, y0, y1, y2, y3, y4, y5, _⟩ := HPs.out.at' k hkl
      subst eb
      have tr : ∀ i, wr.cell? ⟨b, i, none⟩ = w.cell? ⟨b, i, none⟩ := fun i => HW.out.cell (p := ⟨b, i, none⟩) hbw
      have z0 := (tr _).trans y0
      have z1 := (tr _).trans y1
      have z2 := (tr _).trans y2
      have z3 := (tr _).trans y3
      have z4 := (tr _).trans y4
      have z5 := (tr _).trans y5
      have hpk := plN_succ hkl
      have hpb : plN ps (k + 1) ≤ 64000000 := by have := plN_le ps (k + 1); have := HTe.out.1; omega
      clear tr y0 y1 y2 y3 y4 y5
      generalize (ps[k]).le.length = nL at *
      generalize (ps[k]).fi.length = nF at *
      generalize (ps[k]).la.length = nA at *
      generalize (ps[k]).fo.length = nO at *
      generalize (ps[k]).em = em at *
      generalize (ps[k]).an = an at *
      obtain ⟨pk, hpk0⟩ : ∃ pk, pk = plN ps k := ⟨_, rfl⟩
      obtain ⟨pk1, hpk1⟩ : ∃ pk1, pk1 = plN ps (k + 1) := ⟨_, rfl⟩
      rw [← hpk0, ← hpk1] at hpk
      rw [← hpk1] at hpb
      have HPk := hid0 (And.intro hpk0 hpk1)
      rw [← hpk0]
      clear hpk0 hpk1
      obtain ⟨wA, hwA⟩ : ∃ wA, wA = wr.alloc (.cells #[.slice aL nL cL, .slice aF nF cF, .slice aA nA cA, .slice aO nO cO, .bool em, .bool an] 48) := ⟨_, rfl⟩
      have HWA : Hid (Below w.heap.size w wA) := hid0 (Below.later HW.out (by rw [hwA]; exact (Below.refl _ _).alloc (Nat.le_refl _) _))
      have hrA : wA.heap[wr.heap.size]? = some (.cells #[.slice aL nL cL, .slice aF nF cF, .slice aA nA cA, .slice aO nO cO, .bool em, .bool an] 48 (0, 0)) := by rw [hwA]; exact heap_alloc_new wr _
      have dA : wA.cell? ⟨wr.heap.size, 0, none⟩ = some (.slice aL nL cL) := by rw [cell_of_row _ _ _ _ _ _ hrA]; rfl
      have hadd : (pk : Int) + (nL : Int) = (pk1 : Int) := by omega
      have hwrp : IntKind.i64.wrap (pk1 : Int) = (pk1 : Int) := by rw [IntKind.wrap_i64]; omega
      have hkI : (k : Int) < (ps.length : Int) := by omega
      have hkI0 : (0 : Int) ≤ (k : Int) := by omega
      have hfold := hwA.symm
      clear hwA hrA hpk
      go_wp2
      go_roundw
      case rel => exact ⟨k + 1, by omega, by rw [← HPk.out.2], by go_num, HWA⟩
      case measure => simp [intOf]; omega
    · obtain rfl : k = ps.length := by omega
      rw [← HTe.out.1]
      go_wp2
      go_cut [9] from 30 (fun p wx => ∃ J GZ GP GC : Nat, p = .pointer (some ⟨J, 0, none⟩) ∧ Hid (w.heap.size ≤ J ∧ JoY wx J sy w.heap.size (.slice none 0 0) (.slice none 0 0) (.slice (some ⟨GZ, 0, none⟩) N N) (.slice (some ⟨GP, 0, none⟩) N N) (.slice (some ⟨GC, 0, none⟩) N N) N jNil ∧ Below w.heap.size w wx))
      case first =>
        have hws : w.heap.size ≤ wr.heap.size := HW.out.size
        go_region
        all_goals
          go_wp2_with fail
          go_meet
          case rel =>
            refine ⟨_, _, _, _, rfl, hid0 ⟨by omega, JoY.empty (w := w) (alloc5 wr _ _ _ _ _).2.2.2.2 ?_ ?_ ?_ ?_ hT hNb ?_ ?_ ?_ ?_ ?_ ?_ ?_, Below.later HW.out (((((((Below.refl _ wr).alloc (Nat.le_refl _) _).alloc (by simp) _).alloc (by simp; omega) _).alloc (by simp; omega) _).alloc (by simp; omega) _).drew)⟩⟩
            all_goals first | omega | exact (alloc5 wr _ _ _ _ _).1 | exact (alloc5 wr _ _ _ _ _).2.1 | exact (alloc5 wr _ _ _ _ _).2.2.1 | exact (alloc5 wr _ _ _ _ _).2.2.2.1
      case rest =>
        obtain ⟨J, GZ, GP, GC, rfl, HC⟩ := hcut
        clear hmk1 hmk2 HW hdiv hdiv2 hpos hpos2
        obtain ⟨w1, hw1⟩ : ∃ w1, w1 = wc.alloc (.cells (madeCells #[.slice none 0 0] T) 34) := ⟨_, rfl⟩
        have HJ0 : Hid (JfI w J sy N GZ GP GC (jAcc ps 0) (.slice (some ⟨wc.heap.size, 0, none⟩) 0 T) w1) := hid0 (by
          have hb : Below wc.heap.size wc w1 := by rw [hw1]; exact (Below.refl _ _).alloc (Nat.le_refl _) _
          obtain ⟨vO, vF, vE, vS, vA, hj, h0⟩ := HC.out.2.1
          refine ⟨Below.later HC.out.2.2 hb, ⟨vO, vF, vE, vS, vA, hj.past hb, h0⟩, ⟨[], ?_, fun k hk => absurd hk (Nat.not_lt_zero _)⟩⟩
          rw [hw1]
          exact World.ownsRow_made wc _ T HC.out.2.2.size (by unfold maxLen; omega) (by rw [size_madeCells]; simp))
        have hfold := hw1.symm
        have HLJ := hid0 HC.out.1
        clear hw1 HC
        go_wp2
        go_loopw [10, 45] (fun t i wr => ∃ k : Nat, k ≤ ps.length ∧ i = .int .i64 (k : Int) ∧ Hid (JfI w J sy N GZ GP GC (jAcc ps k) t wr)) (fun _ i _ => ps.length - (intOf i).toNat)
        case atStart => exact ⟨0, Nat.zero_le _, rfl, HJ0⟩
        case round =>
          clear hmk3 hfold HJ0
          obtain ⟨k, hk, rfl, HK⟩ := hrel
          by_cases hkl : k < ps.length
          · obtain ⟨b, off, eb, hbw, aL, aF, aA, aO, cL, cF, cA, cO, y0, y1, y2, y3, y4, y5, hrw, hnl, hpa⟩ := HPs.out.at' k hkl
            subst eb
            obtain ⟨V, hV⟩ : ∃ V, V = wr := ⟨_, rfl⟩
            subst hV
            have tr : ∀ i, V.cell? ⟨b, i, none⟩ = w.cell? ⟨b, i, none⟩ := fun i => HK.out.bel.cell (p := ⟨b, i, none⟩) hbw
            have z0 := (tr _).trans y0
            have z1 := (tr _).trans y1
            have z2 := (tr _).trans y2
            have z3 := (tr _).trans y3
            have z4 := (tr _).trans y4
            have z5 := (tr _).trans y5
            obtain ⟨p, hp⟩ : ∃ p, p = ps[k] := ⟨_, rfl⟩
            have hpm : p ∈ ps := by rw [hp]; exact List.getElem_mem hkl
            obtain ⟨j, hj⟩ : ∃ j, j = jAcc ps k := ⟨_, rfl⟩
            have HJs : Hid (jAcc ps (k + 1) = jStep j k p) := hid0 (by rw [jAcc_succ hkl, ← hp, ← hj])
            rw [← hp] at z0 z1 z2 z3 z4 z5 hrw hpa
            have hK1 := HK.out
            rw [← hj] at hK1
            obtain ⟨wA, hwA⟩ : ∃ wA, wA = V.alloc (.cells #[.slice aL p.le.length cL, .slice aF p.fi.length cF, .slice aA p.la.length cA, .slice aO p.fo.length cO, .bool p.em, .bool p.an] 48) := ⟨_, rfl⟩
            have hbA : Below V.heap.size V wA := by rw [hwA]; exact (Below.refl _ _).alloc (Nat.le_refl _) _
            have hrA : wA.heap[V.heap.size]? = some (.cells #[.slice aL p.le.length cL, .slice aF p.fi.length cF, .slice aA p.la.length cA, .slice aO p.fo.length cO, .bool p.em, .bool p.an] 48 (0, 0)) := by rw [hwA]; exact heap_alloc_new V _
            have dA : ∀ W : World, KeT wA W → W.cell? ⟨V.heap.size, 0, none⟩ = some (.slice aL p.le.length cL) := fun W hW => by
              have hq : W.heap[V.heap.size]? = _ := (hW.kp _ _ _ _ hrA (by decide) (by decide) (by decide) (by decide)).trans hrA
              rw [cell_of_row _ _ _ _ _ _ hq]; rfl
            have HDA := hid0 dA
            have e0 : wA.cell? ⟨V.heap.size, 0, none⟩ = some (.slice aL p.le.length cL) := by rw [cell_of_row _ _ _ _ _ _ hrA]; rfl
            have e1 : wA.cell? ⟨V.heap.size, 1, none⟩ = some (.slice aF p.fi.length cF) := by rw [cell_of_row _ _ _ _ _ _ hrA]; rfl
            have e2 : wA.cell? ⟨V.heap.size, 2, none⟩ = some (.slice aA p.la.length cA) := by rw [cell_of_row _ _ _ _ _ _ hrA]; rfl
            have e3 : wA.cell? ⟨V.heap.size, 3, none⟩ = some (.slice aO p.fo.length cO) := by rw [cell_of_row _ _ _ _ _ _ hrA]; rfl
            have e4 : wA.cell? ⟨V.heap.size, 4, none⟩ = some (.bool p.em) := by rw [cell_of_row _ _ _ _ _ _ hrA]; rfl
            have e5 : wA.cell? ⟨V.heap.size, 5, none⟩ = some (.bool p.an) := by rw [cell_of_row _ _ _ _ _ _ hrA]; rfl
            have hown := jAcc_own HOk.out k hk
            rw [← hj] at hown
            have hokj := jAcc_ok (N := N) HOk.out (by rw [← HTe.out.1]; have := HTe.out.2; omega) k hk
            rw [← hj] at hokj
            have HAd : Hid (Calls Tryd.prog 51 #[.pointer (some ⟨J, 0, none⟩), .int .i64 (k : Int), .agg #[.slice aL p.le.length cL, .slice aF p.fi.length cF, .slice aA p.la.length cA, .slice aO p.fo.length cO, .bool p.em, .bool p.an]] wA fun e w' => (∃ v, e = .returned v) ∧ Hid (Below w.heap.size wA w' ∧ KeT wA w' ∧ JoY w' J sy w.heap.size (.slice none 0 0) (.slice none 0 0) (.slice (some ⟨GZ, 0, none⟩) N N) (.slice (some ⟨GP, 0, none⟩) N N) (.slice (some ⟨GC, 0, none⟩) N N) N (jStep j k p))) := hid0 (by
              obtain ⟨vO, vF, vE, vS, vA, g1, g2⟩ := hK1.jo
              have q1 := jAcc_fo ps k hk
              have q2 := foN_le ps (k + 1)
              have q3 := foN_succ hkl
              have q4 := HB.out.1
              have q5 := jAcc_nums ps k hk
              have q6 := plN_succ hkl
              have q7 := plN_le ps (k + 1)
              have q8 := HTe.out
              rw [← hj] at q1 q5
              rw [← hp] at q3 q6
              have q9 := hK1.bel.size
              exact addP_any J sy w.heap.size k N GZ GP GC N N N cL cF cA cO p.le.length aL aF aA aO (.slice none 0 0) (.slice none 0 0) j p w wA ⟨vO, vF, vE, vS, vA, g1.past hbA, g2⟩ HLJ.out (Nat.le_trans q9 hbA.size) hpa (Nat.le_refl _) (Below.later hK1.bel hbA) hNb hokj (HOk.out p hpm) (by omega) (by omega) (by omega) (by omega) (HB.out.2.2 p hpm).1 (HB.out.2.2 p hpm).2 (by omega))
            have HLr : Hid (∀ W : World, KeT wA W → LrO w W w.heap.size _ j.LE) := hid0 (fun W hW => (hK1.lt.keT (KeT.below hbA)).keT hW)
            have HBl : Hid (∀ W : World, Below w.heap.size wA W → Below w.heap.size w W) := hid0 (fun W hW => (Below.later hK1.bel hbA).trans hW)
            have HRw := hid0 hrw
            have HNl := hid0 hnl
            have HLl : Hid (j.LE.length + p.le.length ≤ 1000000000) := hid0 (by
              have q1 := hokj.le
              have q6 := plN_succ hkl
              have q7 := plN_le ps (k + 1)
              have q8 := HTe.out
              rw [← hp] at q6
              omega)
            have hkI : (k : Int) < (ps.length : Int) := by omega
            have hkI0 : (0 : Int) ≤ (k : Int) := by omega
            have hfold := hwA.symm
            have hnm := (HK.out)
            clear hwA hbA hrA dA hK1 HK hokj hown hrw hnl hpa hj hp hpm tr y0 y1 y2 y3 y4 y5 hnm
            go_wp2_with (first
              | (go_at_call 51; go_loud ((refine HAd.out.mono ?_; rintro e w2 ⟨⟨v2, rfl⟩, HA2⟩; have dB := HDA.out w2 HA2.out.2.1)))
              | (at_builtin; go_loud ((refine wpList_spreadW rfl _ _ rfl _ j.LE p.le aL p.le.length cL w.heap.size rfl rfl rfl HNl.out (HLr.out w2 HA2.out.2.1) HRw.out (HBl.out w2 HA2.out.1) HLl.out (HBl.out w2 HA2.out.1).size ?_; intro v3 w3 g1 g2; have HG1 := hid0 g1; have HG2 := hid0 g2; clear g1 g2))))
            have HN : Hid (JfI w J sy N GZ GP GC (jAcc ps (k + 1)) v3 w3) := hid0 (by
              obtain ⟨VS, hv⟩ := (HLr.out w2 HA2.out.2.1).typ
              rw [HJs.out]
              obtain ⟨vO, vF, vE, vS, vA, g1, g2⟩ := HA2.out.2.2
              exact ⟨(HBl.out w2 HA2.out.1).grown HG2.out (HBl.out w2 HA2.out.1).size (fun q hq => (World.ownsRow.lt hv q hq).1), ⟨vO, vF, vE, vS, vA, g1.other hv (by decide) (Only.ofGrown HG2.out), g2⟩, HG1.out⟩)
            go_roundw
            case rel => exact ⟨k + 1, by omega, by go_num, HN⟩
            case measure => simp [intOf]; omega
          · obtain rfl : k = ps.length := by omega
            obtain ⟨j, hj⟩ : ∃ j, j = jAcc ps ps.length := ⟨_, rfl⟩
            have hK1 := HK.out
            rw [← hj] at hK1
            obtain ⟨VS, hvs⟩ := hK1.lt.typ
            obtain ⟨aT, cT, eT⟩ := own_sl hvs
            subst eT
            have hokj := jAcc_ok (N := N) HOk.out (by rw [← HTe.out.1]; have := HTe.out.2; omega) ps.length (Nat.le_refl _)
            have hown := jAcc_own HOk.out ps.length (Nat.le_refl _)
            have hles := jAcc_le ps ps.length (Nat.le_refl _)
            rw [← hj] at hokj hown hles
            have hLl : j.LE.length = T := by rw [hokj.le, hown, ← HTe.out.1]
            have HAl : Hid (Calls Tryd.prog 52 #[.pointer (some ⟨J, 0, none⟩), .slice aT j.LE.length cT] wr fun e w' => (∃ v, e = .returned v) ∧ Hid (JoF w' J sy w.heap.size N jf ∧ Below w.heap.size w w')) := hid0 (by
              obtain ⟨vO, vF, vE, vS, vA, g1, g2⟩ := hK1.jo
              obtain ⟨q1, _, q2⟩ := hK1.lt.lta g1.b.r hK1.bel HLJ.out
              refine (addLetters_any J sy cT aT j.LE vO vF vE _ _ _ vS vA wr g1.b q1 q2 hsy hokj.le' (by omega) (by rw [hles]; exact HB.out.2.1)).mono (fun e w' ⟨r1, r2⟩ => ⟨r1, hid0 ⟨⟨HLJ.out, ?_⟩, r2.only.afterBelow hK1.bel hK1.bel.size (fun i hi => by rw [hi]; exact HLJ.out)⟩⟩)
              obtain ⟨vL, vM, t1, t2, t3, t4⟩ := r2.jo
              have g3 := g1.letters t1 r2.only
              have eN : (j.LE.length + 63) / 64 = N := by rw [hLl, HTe.out.2]
              rw [eN] at t2 t3 t4
              rw [HJf.out, ← hj]
              exact ⟨vO, vF, vE, vL, vM, GZ, GP, GC, N, N, N, vS, vA, g3, rww_of g3.f g2 g3.e, rwl_of t2 t4 t3⟩)
            clear hK1 HK hvs hokj hown hles hLl hj
            go_wp2_with (go_at_call 52; go_loud ((refine HAl.out.mono ?_; rintro e w2 ⟨⟨v2, rfl⟩, HA2⟩)))
            go_ret
            exact ⟨J, rfl, HA2.out.1, HA2.out.2⟩
end Go.Proofs.YtleeedjpccooaaaDoor
namespace Go.Proofs.YtleeedjpccooaaaDoor
open Go.RowKit Go.Shelf
/-- Blocks but those of some kinds stay. -/
structure KeB (T : List TypeId) (W W' : World) : Prop where
  size : W.heap.size ≤ W'.heap.size
  kp : ∀ (k : Nat) (o : Obj), W.heap[k]? = some o → (∀ cs t f, o = .cells cs t f → t ∉ T) → W'.heap[k]? = some o
theorem KeB.refl (T : List TypeId) (W : World) : KeB T W W := ⟨Nat.le_refl _, fun _ _ h _ => h⟩
theorem KeB.trans {T : List TypeId} {A B C : World} (h : KeB T A B) (g : KeB T B C) : KeB T A C := ⟨Nat.le_trans h.size g.size, fun k o hk ht => g.kp k o (h.kp k o hk ht) ht⟩
theorem KeB.mono {T T' : List TypeId} {A B : World} (h : KeB T A B) (hs : ∀ t ∈ T, t ∈ T') : KeB T' A B := ⟨h.size, fun k o hk ht => h.kp k o hk (fun cs t f e hm => ht cs t f e (hs t hm))⟩
theorem KeB.below {W W' : World} (T : List TypeId) (h : Below W.heap.size W W') : KeB T W W' := ⟨h.size, fun k _ hk _ => (h.block k (Array.getElem?_eq_some_iff.1 hk).1).trans hk⟩
theorem KeB.only {W W' : World} {T : List TypeId} {S : Nat → Prop} (h : Only W W' S) (hS : ∀ k, S k → k < W.heap.size → ∃ cs t f, W.heap[k]? = some (.cells cs t f) ∧ t ∈ T) : KeB T W W' := ⟨h.size, fun k o hk ht => (h.block k (Array.getElem?_eq_some_iff.1 hk).1 (fun hs => by
  obtain ⟨cs, t, f, e, hm⟩ := hS k hs (Array.getElem?_eq_some_iff.1 hk).1
  rw [hk] at e
  injection e with e
  exact ht cs t f e hm)).trans hk⟩
theorem KeB.own {T : List TypeId} {W W' : World} {lo : Nat} {t : TypeId} {s n : Nat} {v : Value} {xs : List Value} (h : KeB T W W') (ho : W.ownsRow lo t s v n xs) (ht : t ∉ T) : W'.ownsRow lo t s v n xs := own_blk ho (fun k hk => by
  obtain ⟨cs, hcs⟩ := own_typ ho hk
  rw [h.kp k _ hcs (fun cs' t' f' e => by injection e with _ e2; rw [← e2]; exact ht), hcs])
theorem KeB.map {T : List TypeId} {W W' : World} {B o : Nat} {ks : List (List UInt8)} (h : KeB T W W') (hm : MapS W B o ks) : MapS W' B o ks := by
  obtain ⟨es, cl, e⟩ := hm.isMap
  exact hm.keep ((h.kp B _ e (fun _ _ _ q => by cases q)).trans e.symm)
theorem KeB.row {T : List TypeId} {W W' : World} {lo : Nat} {t : TypeId} {s n : Nat} {v : Value} {xs : List Value} (hv : W.ownsRow lo t s v n xs) (ht : t ∈ T) (hO : Only W W' (fun k => v.ownBlock = some k)) : KeB T W W' := KeB.only hO (fun k hk _ => by
  obtain ⟨cs, hcs⟩ := own_typ hv hk
  exact ⟨cs, t, _, hcs, ht⟩)
theorem KeB.cell {T : List TypeId} {W : World} {g i : Nat} {cs : Array Value} {t : TypeId} {f : Nat × Nat} (hg : W.heap[g]? = some (.cells cs t f)) (ht : t ∈ T) (u : Value) : KeB T W (W.setCell ⟨g, i, none⟩ u) := KeB.only (Only.setCell W g i u) (fun k hk _ => by rw [hk]; exact ⟨cs, t, f, hg, ht⟩)
theorem KeB.mapped {_T : List TypeId} {W W' : World} {B o : Nat} {ks : List (List UInt8)} (_hm : MapS W B o ks) (hg : W.grownBy W' (some B)) {k : Nat} {ob : Obj} (hk : W.heap[k]? = some ob) (hne : k ≠ B) : W'.heap[k]? = some ob := (hg.block k (Array.getElem?_eq_some_iff.1 hk).1 (fun e => hne (by injection e))).trans hk
/-- The symbols whose opening is met first. -/
def csF (f : Nat → List UInt8) : Nat → List Nat
  | 0 => []
  | k + 1 => if f k ∈ (csF f k).map f then csF f k else csF f k ++ [k]
/-- The number of a symbol's opening. -/
def ixF (f : Nat → List UInt8) (k c : Nat) : Nat := ((csF f k).map f).idxOf (f c)
theorem csF_lt (f : Nat → List UInt8) : ∀ k, ∀ c ∈ csF f k, c < k
  | 0, c, h => by simp [csF] at h
  | k + 1, c, h => by
    rw [csF] at h
    split at h
    · have := csF_lt f k c h; omega
    · rcases List.mem_append.1 h with h | h
      · have := csF_lt f k c h; omega
      · have := List.mem_singleton.1 h; omega
theorem csF_len (f : Nat → List UInt8) : ∀ k, (csF f k).length ≤ k
  | 0 => Nat.le_refl _
  | k + 1 => by
    have := csF_len f k
    rw [csF]
    split
    · omega
    · simp; omega
theorem csF_mem (f : Nat → List UInt8) : ∀ k c, c < k → f c ∈ (csF f k).map f
  | k + 1, c, h => by
    rw [csF]
    by_cases hm : f k ∈ (csF f k).map f
    · rw [if_pos hm]
      by_cases hc : c = k
      · rw [hc]; exact hm
      · exact csF_mem f k c (by omega)
    · rw [if_neg hm, List.map_append, List.mem_append]
      by_cases hc : c = k
      · right; rw [hc]; simp
      · left; exact csF_mem f k c (by omega)
theorem ixF_succ (f : Nat → List UInt8) {k c : Nat} (h : c < k) : ixF f (k + 1) c = ixF f k c := by
  unfold ixF
  rw [csF]
  split
  · rfl
  · rw [List.map_append, List.idxOf_append, if_pos (csF_mem f k c h)]
theorem ixF_new (f : Nat → List UInt8) {k : Nat} (h : f k ∉ (csF f k).map f) : csF f (k + 1) = csF f k ++ [k] ∧ ixF f (k + 1) k = (csF f k).length := by
  have e : csF f (k + 1) = csF f k ++ [k] := by rw [csF, if_neg h]
  refine ⟨e, ?_⟩
  unfold ixF
  rw [e, List.map_append, List.idxOf_append, if_neg h]
  simp
theorem ixF_old (f : Nat → List UInt8) {k : Nat} (h : f k ∈ (csF f k).map f) : csF f (k + 1) = csF f k ∧ ixF f (k + 1) k = ((csF f k).map f).idxOf (f k) := by
  have e : csF f (k + 1) = csF f k := by rw [csF, if_pos h]
  exact ⟨e, by unfold ixF; rw [e]⟩
theorem ixF_lt (f : Nat → List UInt8) {k c : Nat} (h : c < k) : ixF f k c < (csF f k).length := by
  have := List.idxOf_lt_length_of_mem (csF_mem f k c h)
  rw [List.length_map] at this
  exact this
/-- The texts behind so many symbols. -/
def txN (f : Nat → List UInt8) (k c : Nat) : List UInt8 := if c < k then leB (ixF f k c) 4 else f c
theorem txN_succ (f : Nat → List UInt8) (k : Nat) : (fun c => if c = k then leB (ixF f (k + 1) k) 4 else txN f k c) = txN f (k + 1) := by
  funext c
  unfold txN
  by_cases h : c = k
  · subst h; rw [if_pos rfl, if_pos (by omega)]
  · rw [if_neg h]
    by_cases h2 : c < k
    · rw [if_pos h2, if_pos (by omega), ixF_succ f h2]
    · rw [if_neg h2, if_neg (by omega)]
/-- Openings in memory. -/
structure OpI (W : World) (lo : Nat) (v : Value) (os : List (List UInt8 × List Nat)) : Prop where
  own : ∃ VS, W.ownsRow lo 103 2 v os.length VS ∧ ∀ o (h : o < os.length), VS[o * 2]? = some (.string ⟨(os[o]).1.toArray⟩) ∧ ∃ a c, VS[o * 2 + 1]? = some (.slice a (os[o]).2.length c) ∧ OwnI W lo (.slice a (os[o]).2.length c) (nI (os[o]).2)
theorem OpI.nil (W : World) (lo : Nat) : OpI W lo (.slice none 0 0) [] := ⟨[], World.ownsRow_nil _ _ _ _, fun _o h => absurd h (Nat.not_lt_zero _)⟩
theorem OpI.keep {T : List TypeId} {W W' : World} {lo : Nat} {v : Value} {os : List (List UInt8 × List Nat)} (h : OpI W lo v os) (hk : KeB T W W') (h1 : 103 ∉ T) (h2 : 3 ∉ T) : OpI W' lo v os := by
  obtain ⟨VS, h3, h4⟩ := h.own
  refine ⟨VS, hk.own h3 h1, fun o ho => ?_⟩
  obtain ⟨q1, a, c, q2, q3⟩ := h4 o ho
  exact ⟨q1, a, c, q2, hk.own q3 h2⟩
/-- The builder while its openings are made. -/
structure NbI (wJ : World) (B J sy N most GT cT NB KB : Nat) (f : Nat → List UInt8) (E : Nat → List Nat) (csK csO : List Nat) (tf : Nat → List UInt8) (ps : Lob) (W : World) : Prop where
  bel : Below wJ.heap.size wJ W
  bb : ∃ vOp vRe, Bb W B J vOp vRe (.slice (some ⟨GT, 0, none⟩) sy cT) (.map (some NB)) (.slice none 0 0) most 0 (.slice none 0 0) (.slice none 0 0) ∧ OpI W wJ.heap.size vOp (csO.map fun c => (f c, E c)) ∧ OwnU W wJ.heap.size vRe N (fun _ => false) ∧ ∃ GR cR, vRe = .slice (some ⟨GR, 0, none⟩) N cR
  nb : MapS W NB 1 []
  kb : MapS W KB 0 (csK.map f)
  ne : NB ≠ KB
  lo' : wJ.heap.size ≤ B ∧ wJ.heap.size ≤ KB ∧ wJ.heap.size ≤ NB
  tx : ps.length = sy ∧ BagT W wJ.heap.size (.slice (some ⟨GT, 0, none⟩) sy cT) ps ∧ ∀ c (h : c < ps.length), (ps[c]).2 = tf c
section
variable {wJ W : World} {B J sy N most GT cT NB KB : Nat} {f : Nat → List UInt8} {E : Nat → List Nat} {csK csO : List Nat} {tf : Nat → List UInt8} {ps : Lob}
theorem BagT.keep {T : List TypeId} {w w' : World} {base : Nat} {v : Value} {ps : Lob} (h : BagT w base v ps) (hk : KeB T w w') (h1 : 99 ∉ T) (h2 : 5 ∉ T) : BagT w' base v ps := ⟨hk.own h.outer h1, fun x hx => hk.own (h.row x hx) h2, h.apart, h.away⟩
/-- What lies elsewhere changes nothing. -/
theorem NbI.new (h : NbI wJ B J sy N most GT cT NB KB f E csK csO tf ps W) {W' : World} (hb : Below W.heap.size W W') : NbI wJ B J sy N most GT cT NB KB f E csK csO tf ps W' := by
  obtain ⟨vOp, vRe, h1, h2, h3, hfm⟩ := h.bb
  obtain ⟨p1, p2, p3⟩ := h.tx
  have hk : KeB [] W W' := KeB.below _ hb
  exact ⟨Below.later h.bel hb, ⟨vOp, vRe, h1.past hb, h2.keep hk (by simp) (by simp), hk.own h3 (by simp), hfm⟩, hk.map h.nb, hk.map h.kb, h.ne, h.lo', ⟨p1, p2.keep hk (by simp) (by simp), p3⟩⟩
/-- A text of a symbol is known now. -/
theorem NbI.know (h : NbI wJ B J sy N most GT cT NB KB f E csK csO tf ps W) {W' : World} {c : Nat} (hm : MapS W' KB 0 ((csK ++ [c]).map f)) (hg : W.grownBy W' (some KB)) : NbI wJ B J sy N most GT cT NB KB f E (csK ++ [c]) csO tf ps W' := by
  obtain ⟨vOp, vRe, h1, h2, h3, hfm⟩ := h.bb
  obtain ⟨p1, p2, p3⟩ := h.tx
  obtain ⟨es, cl, e⟩ := h.kb.isMap
  have hk : KeB [] W W' → True := fun _ => trivial
  have hcell : ∀ (k : Nat) (cs : Array Value) (t : TypeId) (f' : Nat × Nat), W.heap[k]? = some (.cells cs t f') → W'.heap[k]? = W.heap[k]? := fun k cs t f' q => by
    refine hg.block k (Array.getElem?_eq_some_iff.1 q).1 (fun e2 => ?_)
    injection e2 with e2
    rw [e2, e] at q
    cases q
  have ho : ∀ {t : TypeId} {s n : Nat} {v : Value} {xs : List Value}, W.ownsRow wJ.heap.size t s v n xs → W'.ownsRow wJ.heap.size t s v n xs := fun q => own_blk q (fun k hk => by
    obtain ⟨cs, hcs⟩ := own_typ q hk
    exact hcell k cs _ _ hcs)
  obtain ⟨VS, o1, o2⟩ := h2.own
  refine ⟨h.bel.grown hg h.bel.size (fun q hq => by injection hq with hq; rw [← hq]; exact h.lo'.2.1), ⟨vOp, vRe, h1.kept (hcell B _ _ _ h1.r), ⟨VS, ho o1, fun o hoo => ?_⟩, ho h3, hfm⟩, h.nb.keep (hg.block NB h.nb.lt (fun e2 => h.ne (by injection e2))), hm, h.ne, h.lo', ⟨p1, ⟨ho p2.outer, fun x hx => ho (p2.row x hx), p2.apart, p2.away⟩, p3⟩⟩
  obtain ⟨q1, a, c, q2, q3⟩ := o2 o hoo
  exact ⟨q1, a, c, q2, ho q3⟩
end
end Go.Proofs.YtleeedjpccooaaaDoor
namespace Go.Proofs.YtleeedjpccooaaaDoor
open Go.RowKit Go.Shelf
section
variable {wJ W : World} {B J sy N most GT cT NB KB : Nat} {f : Nat → List UInt8} {E : Nat → List Nat} {csK csO : List Nat} {tf : Nat → List UInt8} {ps : Lob}
theorem NbI.drew (h : NbI wJ B J sy N most GT cT NB KB f E csK csO tf ps W) : NbI wJ B J sy N most GT cT NB KB f E csK csO tf ps W.drew := h.new (Below.refl _ _).drew
theorem NbI.open' (h : NbI wJ B J sy N most GT cT NB KB f E csK csO tf ps W) : ∃ a n c VS, n = csO.length ∧ W.cell? ⟨B, 1, none⟩ = some (.slice a n c) ∧ W.ownsRow wJ.heap.size 103 2 (.slice a n c) n VS ∧ ∀ (W1 : World) (x : Nat) (aE : Option Addr) (cE : Nat), Below W.heap.size W W1 → OwnI W1 wJ.heap.size (.slice aE (E x).length cE) (nI (E x)) → ∀ (v1 : Value) (w1 : World), w1.ownsRow wJ.heap.size 103 2 v1 (n + 1) (VS ++ [.string ⟨(f x).toArray⟩, .slice aE (E x).length cE]) → Only W1 w1 (fun k => (Value.slice a n c).ownBlock = some k) → (w1.cell? ⟨B, 1, none⟩ = some (.slice a n c) ∧ w1.frozen? ⟨B, 1, none⟩ = false) ∧ NbI wJ B J sy N most GT cT NB KB f E csK (csO ++ [x]) tf ps (w1.setCell ⟨B, 1, none⟩ v1) := by
  obtain ⟨vOp, vRe, h1, h2, h3, hfm⟩ := h.bb
  obtain ⟨VS, o1, o2⟩ := h2.own
  obtain ⟨a, c, e⟩ := own_sl o1
  rw [List.length_map] at e o1
  refine ⟨a, csO.length, c, VS, rfl, by rw [← e]; exact h1.c.2.1, by rw [← e]; exact o1, fun W1 x aE cE hb0 hE v1 w1 hr hO => ?_⟩
  have H1 := h.new hb0
  obtain ⟨p1, p2, p3⟩ := H1.tx
  have o1' : W1.ownsRow wJ.heap.size 103 2 vOp csO.length VS := own_blk o1 (fun k hk => hb0.block k (World.ownsRow.lt o1 k hk).2)
  have b1' : Bb W1 B J vOp vRe (.slice (some ⟨GT, 0, none⟩) sy cT) (.map (some NB)) (.slice none 0 0) most 0 (.slice none 0 0) (.slice none 0 0) := h1.past hb0
  have hk0 : KeB [103, 97] W1 w1 := KeB.row o1' (by simp) (by rw [e]; exact hO)
  have b1 : Bb w1 B J vOp vRe (.slice (some ⟨GT, 0, none⟩) sy cT) (.map (some NB)) (.slice none 0 0) most 0 (.slice none 0 0) (.slice none 0 0) := b1'.kept (by
    rw [b1'.r]
    exact (hO.block B b1'.lt (fun q => own_ne_blk o1' b1'.r (by decide) (by rw [e]; exact q))).trans b1'.r)
  have hk1 : KeB [103, 97] w1 (w1.setCell ⟨B, 1, none⟩ v1) := KeB.cell b1.r (by simp) _
  have hk := hk0.trans hk1
  have hsO := Only.setCell w1 B 1 v1
  have m2 := own_ne_blk hr b1.r (by decide)
  refine ⟨⟨by rw [← e]; exact b1.c.2.1, b1.fz 1⟩, ?_, ⟨v1, vRe, ⟨heap_setCell_same w1 _ 1 _ _ _ b1.r⟩, ⟨VS ++ [.string ⟨(f x).toArray⟩, .slice aE (E x).length cE], ?_, fun o ho => ?_⟩, (hk.own (own_blk h3 (fun k hk => hb0.block k (World.ownsRow.lt h3 k hk).2)) (by decide)), hfm⟩, hk.map H1.nb, hk.map H1.kb, h.ne, h.lo', ⟨p1, p2.keep hk (by decide) (by decide), p3⟩⟩
  · refine hsO.afterBelow (hO.afterBelow H1.bel H1.bel.size (fun i hi => (World.ownsRow.lt o1' i (by rw [e]; exact hi)).1)) (Nat.le_trans H1.bel.size hO.size) (fun i hi => by rw [hi]; exact h.lo'.1)
  · rw [List.length_map, List.length_append, List.length_singleton]
    exact own_blk hr (fun k hk => hsO.block k (World.ownsRow.lt hr k hk).2 (fun q => m2 (q ▸ hk)))
  · have hVl : VS.length = csO.length * 2 := o1.1
    rw [List.length_map, List.length_append, List.length_singleton] at ho
    by_cases hlt : o < csO.length
    · obtain ⟨q1, a2, c2, q2, q3⟩ := o2 o (by rw [List.length_map]; exact hlt)
      rw [List.getElem_map] at q1 q2 q3
      rw [List.getElem_map, List.getElem_append_left hlt]
      refine ⟨by rw [List.getElem?_append_left (by omega)]; exact q1, a2, c2, by rw [List.getElem?_append_left (by omega)]; exact q2, hk.own (own_blk q3 (fun k hk => hb0.block k (World.ownsRow.lt q3 k hk).2)) (by decide)⟩
    · obtain rfl : o = csO.length := by omega
      rw [List.getElem_map, List.getElem_append_right (Nat.le_refl _)]
      simp only [Nat.sub_self, List.getElem_cons_zero]
      refine ⟨?_, aE, cE, ?_, hk.own hE (by decide)⟩
      · rw [List.getElem?_append_right (by omega), show csO.length * 2 - VS.length = 0 by omega]; rfl
      · rw [List.getElem?_append_right (by omega), show csO.length * 2 + 1 - VS.length = 1 by omega]; rfl
/-- One text: where it lies, and what comes of it once it is written anew. -/
theorem NbI.text (h : NbI wJ B J sy N most GT cT NB KB f E csK csO tf ps W) {y : Nat} (hy : y < sy) : ∃ a c, (ps.map (·.1))[y]? = some (.slice a (tf y).length c) ∧ W.cell? ⟨GT, y, none⟩ = some (.slice a (tf y).length c) ∧ OwnB W wJ.heap.size (.slice a (tf y).length c) (tf y) ∧ (a = none → c = 0) ∧ OwnB W wJ.heap.size (.slice a 0 c) [] ∧ W.cell? ⟨B, 3, none⟩ = some (.slice (some ⟨GT, 0, none⟩) sy cT) ∧ ∀ (w1 : World) (v' : Value) (l' : List UInt8), Apd W w1 wJ.heap.size (.slice a 0 c) v' l' → (w1.cell? ⟨B, 3, none⟩ = some (.slice (some ⟨GT, 0, none⟩) sy cT) ∧ (∃ u, w1.cell? ⟨GT, y, none⟩ = some u) ∧ w1.frozen? ⟨GT, y, none⟩ = false) ∧ ∃ ps', NbI wJ B J sy N most GT cT NB KB f E csK csO (fun c => if c = y then l' else tf c) ps' (w1.setCell ⟨GT, y, none⟩ v') := by
  obtain ⟨vOp, vRe, h1, h2, h3, hfm⟩ := h.bb
  obtain ⟨p1, p2, p3⟩ := h.tx
  have hy2 : y < ps.length := by omega
  have hmem : ps[y] ∈ ps := List.getElem_mem hy2
  obtain ⟨k0, k1⟩ := p2.cells p1.symm y hy2
  have hr := p2.row _ hmem
  have e2 := p3 y hy2
  obtain ⟨a, c, ev, hac⟩ : ∃ a c, (ps[y]).1 = .slice a (tf y).length c ∧ (a = none → c = 0) := by
    rcases hr.2 with ⟨e, hn⟩ | ⟨g, cap, cur, e, _⟩
    · exact ⟨none, 0, by rw [e, ← e2, hn], fun _ => rfl⟩
    · exact ⟨_, cap, by rw [e, ← e2], fun q => by cases q⟩
  rw [ev] at k0
  rw [ev, e2] at hr
  have hf : OwnB W wJ.heap.size (.slice a 0 c) [] := by
    have q := own_front hr (Nat.zero_le _)
    unfold OwnB
    simpa [cellsOf] using q
  have hbk : (Value.slice a 0 c).ownBlock = (Value.slice a (tf y).length c).ownBlock := by cases a <;> rfl
  refine ⟨a, c, by rw [List.getElem?_map, List.getElem?_eq_getElem hy2, Option.map_some, ev], k0, hr, hac, hf, h1.c.2.2.2.1, fun w1 v' l' hap => ?_⟩
  have hs := p2.set p1.symm y hy2 (w1 := w1) (v' := v') (l' := l') (fun k hk hne => hap.frm.block k hk (by rw [ev] at hne; rw [hbk]; exact hne)) hap.own (fun q hq => by rw [ev, ← hbk]; exact hap.at' q hq)
  have hk0 : KeB [5, 99] W w1 := KeB.row hf (by simp) hap.frm
  obtain ⟨cs, hcs⟩ := own_typ p2.outer (show Value.ownBlock _ = some GT from rfl)
  have hg1 : w1.heap[GT]? = some (.cells cs 99 (0, 0)) := (hap.frm.block GT (Array.getElem?_eq_some_iff.1 hcs).1 (own_ne_blk hf hcs (by decide))).trans hcs
  have hk1 : KeB [5, 99] w1 (w1.setCell ⟨GT, y, none⟩ v') := KeB.cell hg1 (by simp) _
  have hk := hk0.trans hk1
  have b1 : Bb w1 B J vOp vRe (.slice (some ⟨GT, 0, none⟩) sy cT) (.map (some NB)) (.slice none 0 0) most 0 (.slice none 0 0) (.slice none 0 0) := h1.kept ((hap.frm.block B h1.lt (own_ne_blk hf h1.r (by decide))))
  have hne : B ≠ GT := fun q => by
    have h4 := h1.r
    rw [q, hcs] at h4
    injection h4 with h4
    injection h4 with _ h5
    exact absurd h5 (by decide)
  have hgl := (World.ownsRow.lt p2.outer GT rfl).1
  refine ⟨⟨b1.c.2.2.2.1, ⟨_, (hap.frm.cell (p := ⟨GT, y, none⟩) (World.block_lt_of_cell? W _ k0) (own_ne_blk hf hcs (by decide))).trans k0⟩, by simp [World.frozen?, hg1]⟩, ps.set y (v', l'), ?_, ⟨vOp, vRe, b1.kept ((Only.setCell w1 GT y v').block B b1.lt hne), h2.keep hk (by decide) (by decide), hk.own h3 (by decide), hfm⟩, hk.map h.nb, hk.map h.kb, h.ne, h.lo', ⟨by rw [List.length_set]; exact p1, hs, fun j hj => ?_⟩⟩
  · exact (Only.setCell w1 GT y v').afterBelow (hap.frm.afterBelow h.bel h.bel.size (fun i hi => (World.ownsRow.lt hf i hi).1)) (Nat.le_trans h.bel.size hap.frm.size) (fun i hi => by rw [hi]; exact hgl)
  · rw [List.getElem_set]
    split
    · rename_i e; rw [if_pos e.symm]
    · rename_i e; rw [if_neg (fun q => e q.symm)]; exact p3 j (by simpa using hj)
end
end Go.Proofs.YtleeedjpccooaaaDoor
