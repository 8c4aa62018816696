/-
  The walks of codec.NewReader, (*codec.Reader).Num, (*codec.Reader).Left.
-/
import Derived.Test.YtnclpcnpaodjjaaDoorReadW
namespace Go.Proofs.YtnclpcnpaodjjaaDoor
open Go.RowKit
/-- A slice over a block of bytes. -/
def Seg (w : World) (v : Value) (l : List UInt8) : Prop :=
  (v = .slice none 0 0 ∧ l = []) ∨ ∃ g off cap cur, v = .slice (some ⟨g, off, none⟩) l.length cap ∧ l.length ≤ cap ∧ w.heap[g]? = some (.cells cur 5 (0, 0)) ∧ ∀ k (h : k < l.length), cur[off + k]? = some (.int .u8 (l[k].toNat : Int))
theorem Seg.bytesAt {w : World} {v : Value} {l : List UInt8} (h : Seg w v l) : BytesAt w v l := by
  rcases h with h | ⟨g, off, cap, cur, rfl, _, hh, hc⟩
  · exact .inl h
  · exact .inr ⟨g, off, cap, rfl, fun k hk => by rw [cell_of_row w g _ _ _ _ hh]; exact hc k hk⟩
theorem Seg.inMem {w : World} {v : Value} {l : List UInt8} (h : Seg w v l) : InMem w v := by
  intro b off c n e
  rcases h with ⟨h, _⟩ | ⟨g, off, cap, cur, h, _, hh, hc⟩
  · rw [h] at e; simp at e
  · rw [h] at e
    simp only [Value.slice.injEq, Option.some.injEq, Addr.mk.injEq, and_true] at e
    rw [← e.1.1]
    exact (Array.getElem?_eq_some_iff.1 hh).1
theorem Own.slice {w : World} {base : Nat} {v : Value} {l : List UInt8} (h : Own w base v l) : ∃ a n c, v = .slice a n c := by
  rcases h.2 with ⟨rfl, hn⟩ | ⟨g, cap, cur, rfl, _⟩
  · exact ⟨_, _, _, rfl⟩
  · exact ⟨_, _, _, rfl⟩
theorem Own.seg {w : World} {base : Nat} {v : Value} {l : List UInt8} (h : Own w base v l) : Seg w v l := by
  rcases h.2 with ⟨rfl, hn⟩ | ⟨g, cap, cur, rfl, _, hh, hnc, _, hcs, htake⟩
  · exact .inl ⟨rfl, List.length_eq_zero_iff.1 hn⟩
  · refine .inr ⟨g, 0, cap, cur, rfl, hnc, hh, fun k hk => ?_⟩
    have h1 := World.ownsRow.cellAt h k (by omega)
    rw [cell_of_row w g _ _ _ _ hh] at h1
    rw [Nat.zero_add, h1]
    simp [cellsOf, hk]
theorem Seg.ne {w : World} {v : Value} {l : List UInt8} {R : Nat} {cs : Array Value} {t : TypeId} {z : Nat × Nat} (h : Seg w v l) (hR : w.heap[R]? = some (.cells cs t z)) (ht : t ≠ 5) : ¬ v.ownBlock = some R := by
  intro hk
  rcases h with ⟨rfl, _⟩ | ⟨g, off, cap, cur, rfl, _, hh, _⟩
  · simp [Value.ownBlock] at hk
  · simp [Value.ownBlock] at hk
    subst hk
    rw [hh] at hR
    simp at hR
    exact ht hR.2.1.symm
theorem Seg.only {w w' : World} {S : Nat → Prop} {v : Value} {l : List UInt8} (h : Seg w v l) (ho : Only w w' S) (hn : ∀ k, v.ownBlock = some k → ¬ S k) : Seg w' v l := by
  rcases h with h | ⟨g, off, cap, cur, rfl, h1, hh, hc⟩
  · exact .inl h
  · exact .inr ⟨g, off, cap, cur, rfl, h1, (ho.block g (Array.getElem?_eq_some_iff.1 hh).1 (hn g rfl)).trans hh, hc⟩
theorem Seg.later {w w' : World} {v : Value} {l : List UInt8} (h : Seg w v l) (hb : Below w.heap.size w w') : Seg w' v l :=
  h.only (Only.ofBelow hb (fun _ => False) (fun i h1 h2 => by omega)) (fun _ _ h => h)
theorem Seg.drop {w : World} {g off n cap : Nat} {l : List UInt8} (h : Seg w (.slice (some ⟨g, off, none⟩) n cap) l) (k : Nat) (hk : k ≤ l.length) (m c : Nat) (hm : m = l.length - k) (hc : l.length - k ≤ c) : Seg w (.slice (some ⟨g, off + k, none⟩) m c) (l.drop k) := by
  subst hm
  rcases h with ⟨h, _⟩ | ⟨g', off', cap', cur, h, h1, hh, hcells⟩
  · simp at h
  · simp only [Value.slice.injEq, Option.some.injEq, Addr.mk.injEq, and_true] at h
    obtain ⟨⟨rfl, rfl⟩, rfl, rfl⟩ := h
    refine .inr ⟨g, off + k, c, cur, by simp, by simpa using hc, hh, fun j hj => ?_⟩
    have := hcells (k + j) (by simp at hj; omega)
    rw [Nat.add_assoc, this]
    simp
theorem Seg.drop_all {w : World} {g off n cap : Nat} {l : List UInt8} (h : Seg w (.slice (some ⟨g, off, none⟩) n cap) l) (k : Nat) (hk : l.length ≤ k) (m c : Nat) (hm : m = 0) : Seg w (.slice (some ⟨g, off, none⟩) m c) (l.drop k) := by
  subst hm
  rcases h with ⟨h, _⟩ | ⟨g', off', cap', cur, h, h1, hh, hcells⟩
  · simp at h
  · simp only [Value.slice.injEq, Option.some.injEq, Addr.mk.injEq, and_true] at h
    obtain ⟨⟨rfl, rfl⟩, _, _⟩ := h
    rw [List.drop_of_length_le hk]
    exact .inr ⟨g, off, c, cur, rfl, Nat.zero_le _, hh, fun j hj => absurd hj (Nat.not_lt_zero _)⟩
/-- A reader: its block, what is left. -/
structure Rd (w : World) (R : Nat) (v : Value) (l : List UInt8) : Prop where
  blk : w.heap[R]? = some (.cells #[v] 62 (0, 0))
  seg : Seg w v l
theorem Rd.lt {w : World} {R : Nat} {v : Value} {l : List UInt8} (h : Rd w R v l) : R < w.heap.size := (Array.getElem?_eq_some_iff.1 h.blk).1
theorem Rd.ne {w : World} {R : Nat} {v : Value} {l : List UInt8} (h : Rd w R v l) : ¬ v.ownBlock = some R := h.seg.ne h.blk (by decide)
theorem Rd.cells {w : World} {R : Nat} {v : Value} {l : List UInt8} (h : Rd w R v l) : w.cell? ⟨R, 0, none⟩ = some v ∧ w.frozen? ⟨R, 0, none⟩ = false :=
  ⟨by rw [cell_of_row w R _ _ _ _ h.blk]; rfl, frozen_of_row w R _ _ _ h.blk⟩
theorem Rd.only {w w' : World} {S : Nat → Prop} {R : Nat} {v : Value} {l : List UInt8} (h : Rd w R v l) (ho : Only w w' S) (h1 : ¬ S R) (h2 : ∀ k, v.ownBlock = some k → ¬ S k) : Rd w' R v l :=
  ⟨(ho.block R h.lt h1).trans h.blk, h.seg.only ho h2⟩
theorem Rd.drewN {w : World} {R : Nat} {v : Value} {l : List UInt8} (h : Rd w R v l) (k : Nat) : Rd (w.drewN k) R v l := ⟨h.blk, h.seg⟩
theorem Rd.set {w : World} {R : Nat} {v v' : Value} {l l' : List UInt8} (h : Rd w R v l) (hs : Seg w v' l') (hb : ∀ k, v'.ownBlock = some k → v.ownBlock = some k) : Rd (w.setCell ⟨R, 0, none⟩ v') R v' l' :=
  ⟨heap_setCell_same w R 0 _ _ v' h.blk, hs.only (Only.setCell w R 0 v') (fun k hk e => by subst e; exact h.ne (hb k hk))⟩
set_option maxRecDepth 10000 in
theorem newReader_any (l : List UInt8) (v : Value) (w : World) (hl : l.length ≤ 140737488355328) (hv : BytesAt w v l) (hm : InMem w v) :
    Calls Tryd.prog 7 #[v] w fun e w' => ∃ R v', e = .returned (.pointer (some ⟨R, 0, none⟩)) ∧ w.heap.size ≤ R ∧ (∀ k, v'.ownBlock = some k → w.heap.size ≤ k) ∧ Rd w' R v' l ∧ Below w.heap.size w w' := by
  have hC := clone_any l v w hl hv hm
  clear hv hm
  go_enter Tryd.func7, Tryd.ntmps7
  go_wp2_with (go_at_call 27; refine hC.mono ?_; rintro e w1 ⟨v1, rfl, ho1, hb1⟩; obtain ⟨a1, n1, c1, rfl⟩ := ho1.slice; have HO1 := hid0 ho1; have HB1 := hid0 hb1; clear ho1 hb1)
  go_ret
  refine ⟨w1.heap.size, .slice a1 n1 c1, rfl, HB1.out.size, fun k hk => HO1.out.block_ge hk, ⟨heap_alloc_new w1 _, ?_⟩, HB1.out.trans ((alloc_below w1 _).mono HB1.out.size)⟩
  exact HO1.out.seg.later (alloc_below w1 _)
/-- What a reader's Num answers; what is left. -/
def rdVal (xs xf : Value) : NumR → Value
  | .ok n _ => .tuple #[.int .i64 n, .nilIface]
  | .form => .tuple #[.int .i64 0, xf]
  | .short => .tuple #[.int .i64 0, xs]
def rdRest (l : List UInt8) : NumR → List UInt8
  | .ok _ k => l.drop k
  | _ => l
theorem numFrom_le (i n : Nat) (l : List UInt8) (m k : Nat) (h : numFrom i n l = .ok m k) : i < k ∧ k ≤ i + l.length := by
  induction l generalizing i n with
  | nil => simp [numFrom] at h
  | cons c r ih =>
    rw [numFrom] at h
    split at h
    · simp at h
    · split at h
      · simp at h; simp; omega
      · split at h
        · simp at h
        · have := ih _ _ h; simp; omega
set_option maxRecDepth 10000 in
set_option maxHeartbeats 800000 in
theorem rdNum_any (R : Nat) (v : Value) (l : List UInt8) (w : World) (ps pf : Addr) (hl : l.length ≤ 140737488355328) (h : Rd w R v l)
    (hS : w.cell? ⟨5, 0, none⟩ = some (.iface 87 (.pointer (some ps)))) (hF : w.cell? ⟨13, 0, none⟩ = some (.iface 87 (.pointer (some pf)))) :
    Calls Tryd.prog 12 #[.pointer (some ⟨R, 0, none⟩)] w fun e w' => e = .returned (rdVal (.iface 87 (.pointer (some ps))) (.iface 87 (.pointer (some pf))) (num l)) ∧ ∃ v', Rd w' R v' (rdRest l (num l)) ∧ Only w w' (fun i => i = R) ∧ (∀ k, v'.ownBlock = some k → v.ownBlock = some k) := by
  have hm := number_any l v w _ _ hl hS hF h.seg.bytesAt
  obtain ⟨c0, f0⟩ := h.cells
  have HR := hid0 h
  have hlt := h.lt
  clear hS hF
  cases hr : num l with
  | form =>
    rw [hr, numVal] at hm
    clear hr h
    go_enter Tryd.func12, Tryd.ntmps12
    go_wp2_with (go_at_call 28; refine hm.mono ?_; rintro e w1 ⟨⟨m1, rfl⟩, rfl⟩)
    go_ret2
    exact ⟨rfl, v, HR.out.drewN _, Only.drewN _ _ _, fun k hk => hk⟩
  | short =>
    rw [hr, numVal] at hm
    clear hr h
    go_enter Tryd.func12, Tryd.ntmps12
    go_wp2_with (go_at_call 28; refine hm.mono ?_; rintro e w1 ⟨⟨m1, rfl⟩, rfl⟩)
    go_ret2
    exact ⟨rfl, v, HR.out.drewN _, Only.drewN _ _ _, fun k hk => hk⟩
  | ok n k =>
    rw [hr, numVal] at hm
    obtain ⟨hk0, hkl⟩ := numFrom_le 0 0 l n k hr
    rw [Nat.zero_add] at hkl
    have hseg := h.seg
    rcases hseg with ⟨rfl, rfl⟩ | ⟨g, off, cap, cur, rfl, hcap, hh, hcells⟩
    · simp at hkl; omega
    · clear hr h hcells hh
      have hkI : (k : Int) ≤ (l.length : Int) := by omega
      by_cases hck : cap = k
      · subst hck
        go_enter Tryd.func12, Tryd.ntmps12
        go_wp2_with (go_at_call 28; refine hm.mono ?_; rintro e w1 ⟨⟨m1, rfl⟩, rfl⟩)
        go_ret2
        exact ⟨rfl, _, (HR.out.drewN m1).set ((HR.out.drewN m1).seg.drop_all cap hcap _ 0 (by omega)) (fun k hk => hk), (Only.drewN w m1 _).trans (Only.setCell _ R 0 _) (fun i hi => .inl hi), fun k hk => hk⟩
      · go_enter Tryd.func12, Tryd.ntmps12
        go_wp2_with (go_at_call 28; refine hm.mono ?_; rintro e w1 ⟨⟨m1, rfl⟩, rfl⟩)
        go_ret2
        exact ⟨rfl, _, (HR.out.drewN m1).set ((HR.out.drewN m1).seg.drop k hkl _ _ rfl (by omega)) (fun k hk => hk), (Only.drewN w m1 _).trans (Only.setCell _ R 0 _) (fun i hi => .inl hi), fun k hk => hk⟩
set_option maxRecDepth 10000 in
theorem rdLeft_any (R : Nat) (v : Value) (l : List UInt8) (w : World) (h : Rd w R v l) :
    Calls Tryd.prog 11 #[.pointer (some ⟨R, 0, none⟩)] w fun e w' => e = .returned (.int .i64 (l.length : Int)) ∧ w' = w := by
  obtain ⟨c0, f0⟩ := h.cells
  rcases h.seg with ⟨rfl, rfl⟩ | ⟨g, off, cap, cur, rfl, hcap, hh, hcells⟩
  · clear h
    go_enter Tryd.func11, Tryd.ntmps11
    go_wp2
    go_ret
    exact ⟨rfl, rfl⟩
  · clear h hcells hh
    go_enter Tryd.func11, Tryd.ntmps11
    go_wp2
    go_ret
    exact ⟨rfl, rfl⟩
end Go.Proofs.YtnclpcnpaodjjaaDoor
