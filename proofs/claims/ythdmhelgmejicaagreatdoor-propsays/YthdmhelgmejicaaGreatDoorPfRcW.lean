/-
  The walks of propfile.readClaim and its deferred function.
-/
import Derived.Test.YthdmhelgmejicaaGreatDoorPfClW
import Derived.Defers
import Derived.Recover
import Derived.Laws.Pointers
namespace Go.Proofs.YthdmhelgmejicaaGreatDoor
open Go.RowKit Go.Shelf
set_option maxRecDepth 10000 in
theorem name_any (s : ByteArray) (hs : s.size ≤ 4194400) (R : Nat) (w : World) (h : Rdr w R s) :
    Calls Tryz.prog 83 #[.pointer (some ⟨R, 0, none⟩)] w fun e w' => e = (if isNm (s.data.toList.takeWhile isNb) then .returned (.string ⟨(s.data.toList.takeWhile isNb).toArray⟩) else gave) ∧ w' = w.setCell ⟨R, 0, none⟩ (.string ⟨(s.data.toList.dropWhile isNb).toArray⟩) := by
  have hW := while_nb s hs R w h
  obtain ⟨t, ht⟩ : ∃ t : ByteArray, t = ⟨(s.data.toList.takeWhile isNb).toArray⟩ := ⟨_, rfl⟩
  have htl : t.data.toList = s.data.toList.takeWhile isNb := by rw [ht]
  have hts : t.size ≤ 4194400 := by
    rw [← bsize0, htl]
    have := (List.takeWhile_sublist (p := isNb) (l := s.data.toList)).length_le
    rw [bsize0] at this
    omega
  have hN := fun w => isName_any t hts w
  rw [htl] at hN
  rw [← ht] at hW ⊢
  have HN := hid0 hN
  generalize w.setCell ⟨R, 0, none⟩ (.string ⟨(s.data.toList.dropWhile isNb).toArray⟩) = W1 at hW
  clear h ht htl hN hts hs
  by_cases hb : isNm (s.data.toList.takeWhile isNb) = true
  · rw [if_pos hb]
    rw [hb] at HN
    clear hb
    go_enter Tryz.func83, Tryz.ntmps83
    go_wp2_with (first
      | (go_at_call 80; refine hW.mono ?_; rintro e w1 ⟨rfl, rfl⟩)
      | (go_at_call 63; refine (HN.out _).mono ?_; rintro e w2 ⟨rfl, rfl⟩)
      | (go_at_call 82; refine (need_ok R _).mono ?_; rintro e w3 ⟨rfl, rfl⟩)
      | fail)
    go_ret
    exact ⟨rfl, rfl⟩
  · rw [if_neg hb]
    rw [show isNm (s.data.toList.takeWhile isNb) = false by simpa using hb] at HN
    clear hb
    go_enter Tryz.func83, Tryz.ntmps83
    go_wp2_with (first
      | (go_at_call 80; refine hW.mono ?_; rintro e w1 ⟨rfl, rfl⟩)
      | (go_at_call 63; refine (HN.out _).mono ?_; rintro e w2 ⟨rfl, rfl⟩)
      | (go_at_call 82; refine (need_no R _).mono ?_; rintro e w3 ⟨rfl, rfl⟩)
      | fail)
    exact ⟨rfl, rfl, rfl⟩
set_option maxRecDepth 10000 in
theorem catch_idle (p q : Addr) (w : World) :
    CallsD Tryz.prog 77 #[.pointer (some p), .pointer (some q)] .returning w fun e u' w' => e = .returned (.tuple #[]) ∧ u' = .returning ∧ w' = w := by
  refine callsD_of_wpS Tryz.func77 rfl fun c₀ cs hu => ?_
  apply wpS_seq
  apply wpS_region
  simp [wpOpsS, go_sem, recoverD, hu, Tryz.ntmps77, Exit.thenS]
  refine wpS_of_wp ?_
  go_wp2
  cases c₀
  simp_all [bodyPostS, results, Tryz.results77]
theorem alloc_cell {W : World} {b : Nat} {cs : Array Value} {t : TypeId} (h : W.heap[b]? = some (.cells cs t (0, 0))) (o : Obj) (k : Nat) : (W.alloc o).cell? ⟨b, k, none⟩ = cs[k]? := by
  rw [cell_of_row _ b _ _ _ _ ((Below.heap_alloc W o b (Array.getElem?_eq_some_iff.1 h).1).trans h)]
theorem alloc_frozen {W : World} {b : Nat} {cs : Array Value} {t : TypeId} (h : W.heap[b]? = some (.cells cs t (0, 0))) (o : Obj) (k : Nat) : (W.alloc o).frozen? ⟨b, k, none⟩ = false :=
  frozen_of_row _ b _ _ _ ((Below.heap_alloc W o b (Array.getElem?_eq_some_iff.1 h).1).trans h)
set_option maxRecDepth 10000 in
theorem catch_gave (C E : Nat) (z0 z1 z2 z3 : Value) (pt : Addr) (w : World) (hC : w.heap[C]? = some (.cells #[z0, z1, z2] 88 (0, 0))) (hE : w.heap[E]? = some (.cells #[z3] 27 (0, 0))) (hT : w.cell? ⟨2, 0, none⟩ = some (.iface 236 (.pointer (some pt)))) (hCE : ¬ C = E) :
    CallsD Tryz.prog 77 #[.pointer (some ⟨C, 0, none⟩), .pointer (some ⟨E, 0, none⟩)] (.panicking [{ v := .iface 122 (.agg #[]), recovered := false }]) w fun e u' w' => e = .returned (.tuple #[]) ∧ u' = .panicking [{ v := .iface 122 (.agg #[]), recovered := true }] ∧
      w'.heap[C]? = some (.cells #[.int .i64 0, .int .i64 0, .string ⟨#[]⟩] 88 (0, 0)) ∧ w'.heap[E]? = some (.cells #[.iface 236 (.pointer (some pt))] 27 (0, 0)) ∧ Only w w' (fun i => i = C ∨ i = E) := by
  have hta : ∀ w, (Instr.typeAssert (.iface 122 (.agg #[])) 20 122 true).run Tryz.prog w = .ok (.tuple #[.agg #[], .bool true]) w := fun _ => by kernel_rfl
  have t1 : ∀ o, (w.alloc o).cell? ⟨2, 0, none⟩ = some (.iface 236 (.pointer (some pt))) := fun o => (((Below.refl _ _).alloc (Nat.le_refl _) o : Below w.heap.size w (w.alloc o)).cell (p := ⟨2, 0, none⟩) (World.block_lt_of_cell? w _ hT)).trans hT
  have hC' : ∀ o, (w.alloc o).heap[C]? = some (.cells #[z0, z1, z2] 88 (0, 0)) := fun o => (Below.heap_alloc _ o C (Array.getElem?_eq_some_iff.1 hC).1).trans hC
  have hE' : ∀ o, (w.alloc o).heap[E]? = some (.cells #[z3] 27 (0, 0)) := fun o => (Below.heap_alloc _ o E (Array.getElem?_eq_some_iff.1 hE).1).trans hE
  have k0 : ∀ o, (w.alloc o).cell? ⟨C, 0, none⟩ = some z0 := fun o => alloc_cell hC o 0
  have k1 : ∀ o, (w.alloc o).cell? ⟨C, 1, none⟩ = some z1 := fun o => alloc_cell hC o 1
  have k2 : ∀ o, (w.alloc o).cell? ⟨C, 2, none⟩ = some z2 := fun o => alloc_cell hC o 2
  have k3 : ∀ o, (w.alloc o).cell? ⟨E, 0, none⟩ = some z3 := fun o => alloc_cell hE o 0
  have f0 := fun o k => alloc_frozen hC o k
  have f3 := fun o k => alloc_frozen hE o k
  have HF : Hid (∀ o, let W := ((((w.alloc o).setCell ⟨C, 0, none⟩ (.int .i64 0)).setCell ⟨C, 1, none⟩ (.int .i64 0)).setCell ⟨C, 2, none⟩ (.string ⟨#[]⟩)).setCell ⟨E, 0, none⟩ (.iface 236 (.pointer (some pt)))
      W.heap[C]? = some (.cells #[.int .i64 0, .int .i64 0, .string ⟨#[]⟩] 88 (0, 0)) ∧ W.heap[E]? = some (.cells #[.iface 236 (.pointer (some pt))] 27 (0, 0)) ∧ Only w W (fun i => i = C ∨ i = E)) := hid0 (fun o => by
    have c1 := heap_setCell_same _ C 0 _ _ (.int .i64 0) (hC' o)
    have c2 := heap_setCell_same _ C 1 _ _ (.int .i64 0) c1
    have c3 := heap_setCell_same _ C 2 _ _ (.string ⟨#[]⟩) c2
    have e1 := (heap_setCell_other (w.alloc o) ⟨C, 0, none⟩ E (.int .i64 0) (fun h => hCE h.symm)).trans (hE' o)
    have e2 := (heap_setCell_other _ ⟨C, 1, none⟩ E (.int .i64 0) (fun h => hCE h.symm)).trans e1
    have e3 := (heap_setCell_other _ ⟨C, 2, none⟩ E (.string ⟨#[]⟩) (fun h => hCE h.symm)).trans e2
    have e4 := heap_setCell_same _ E 0 _ _ (.iface 236 (.pointer (some pt))) e3
    have c4 := (heap_setCell_other _ ⟨E, 0, none⟩ C (.iface 236 (.pointer (some pt))) hCE).trans c3
    exact ⟨c4, e4, ((((Only.alloc w o (fun i => i = C ∨ i = E)).trans (Only.setCell _ C 0 _) (fun i hi => .inl (.inl hi))).trans (Only.setCell _ C 1 _) (fun i hi => .inl (.inl hi))).trans (Only.setCell _ C 2 _) (fun i hi => .inl (.inl hi))).trans (Only.setCell _ E 0 _) (fun i hi => .inl (.inr hi))⟩)
  clear hC hE hT hC' hE'
  refine callsD_of_wpS Tryz.func77 rfl fun c₀ cs hu => ?_
  apply wpS_seq
  apply wpS_region
  simp [wpOpsS, go_sem, recoverD, hu, Tryz.ntmps77, Exit.thenS]
  refine wpS_of_wp ?_
  go_wp2
  have hf := HF.out (.cells #[] 122)
  cases c₀
  simp_all [bodyPostS, results, Tryz.results77]
end Go.Proofs.YthdmhelgmejicaaGreatDoor
