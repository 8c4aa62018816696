/-
  The walk of props.checkNames.
-/
import Derived.Test.YtpimameogmkpcaaDoorPbIxW
namespace Go.Proofs.YtpimameogmkpcaaDoor
open Go.RowKit
/-- The refusal at a place of the list. -/
def errV (A : Nat → Addr) (i : Nat) : Value := .iface 96 (.pointer (some (A i)))
def errO (A : Nat → Addr) : Option Nat → Value
  | none => .nilIface
  | some i => errV A i
/-- The five refusals that New tells: each variable's cell. -/
structure Sent5 (w : World) (A : Nat → Addr) : Prop where
  c0 : w.cell? ⟨1, 0, none⟩ = some (errV A 0)
  c1 : w.cell? ⟨2, 0, none⟩ = some (errV A 1)
  c2 : w.cell? ⟨0, 0, none⟩ = some (errV A 2)
  c4 : w.cell? ⟨4, 0, none⟩ = some (errV A 4)
  c6 : w.cell? ⟨5, 0, none⟩ = some (errV A 6)
theorem Sent5.later {w w' : World} {A : Nat → Addr} (h : Sent5 w A) (hb : Below w.heap.size w w') : Sent5 w' A where
  c0 := (hb.cell (p := ⟨1, 0, none⟩) (World.block_lt_of_cell? w _ h.c0)).trans h.c0
  c1 := (hb.cell (p := ⟨2, 0, none⟩) (World.block_lt_of_cell? w _ h.c1)).trans h.c1
  c2 := (hb.cell (p := ⟨0, 0, none⟩) (World.block_lt_of_cell? w _ h.c2)).trans h.c2
  c4 := (hb.cell (p := ⟨4, 0, none⟩) (World.block_lt_of_cell? w _ h.c4)).trans h.c4
  c6 := (hb.cell (p := ⟨5, 0, none⟩) (World.block_lt_of_cell? w _ h.c6)).trans h.c6
def otherB : ByteArray := ⟨#[79, 116, 104, 101, 114]⟩
theorem otherB_list : otherB.toList = [79, 116, 104, 101, 114] := by rw [ByteArray.toList_eq]; rfl
/-- The fault of names behind others. -/
noncomputable def nmF (seen : List ByteArray) : List ByteArray → Option Nat
  | [] => none
  | n :: r => if isNm n.data.toList = false then some 1 else if n = otherB then some 0 else if Lib.containsS seen n = true then some 4 else nmF (seen ++ [n]) r
theorem nmF_at (L : List ByteArray) (k : Nat) (h : k < L.length) : nmF (L.take k) (L.drop k) = if isNm L[k].data.toList = false then some 1 else if L[k] = otherB then some 0 else if Lib.containsS (L.take k) L[k] = true then some 4 else nmF (L.take (k + 1)) (L.drop (k + 1)) := by
  rw [List.drop_eq_getElem_cons h, nmF, List.take_add_one, List.getElem?_eq_getElem h]
  rfl
theorem SA.take {w : World} {a : Option Addr} {L : List ByteArray} (h : SA w a L) (k : Nat) : SA w a (L.take k) := ⟨fun j hj => by
  rw [List.length_take] at hj
  obtain ⟨b, off, e, h1, h2⟩ := h.at' j (by omega)
  exact ⟨b, off, e, h1, by rw [h2, List.getElem_take]⟩⟩
set_option maxRecDepth 10000 in
set_option maxHeartbeats 800000 in
theorem checkNames_any (A : Nat → Addr) (L : List ByteArray) (a : Option Addr) (cap : Nat) (w : World) (hl : L.length ≤ cap) (hcap : L.length ≤ 1000000000) (hsz : ∀ s ∈ L, s.size ≤ 1000000000000) (ha : SA w a L) (hS : Sent5 w A) :
    Calls Tryd.prog 28 #[.slice a L.length cap] w fun e w' => e = .returned (errO A (nmF [] L)) ∧ w' = w := by
  have HS := hid0 ha
  have HZ := hid0 hsz
  obtain ⟨e0, e1, _, e4, _⟩ := hS
  clear ha hsz
  go_enter Tryd.func28, Tryd.ntmps28
  go_wp2
  go_loopw [7] (fun i wr => ∃ k : Nat, k ≤ L.length ∧ i = .int .i64 (k : Int) ∧ Hid (nmF [] L = nmF (L.take k) (L.drop k)) ∧ wr = w) (fun i _ => L.length - (intOf i).toNat)
  case atStart => exact ⟨0, Nat.zero_le _, rfl, hid0 (by simp), rfl⟩
  case round =>
    obtain ⟨k, hk, rfl, HN, rfl⟩ := hrel
    by_cases hlt : k < L.length
    · obtain ⟨b, off, rfl, _, hc⟩ := HS.out.at' k hlt
      have hkI : (k : Int) < (L.length : Int) := by omega
      have hkI0 : (0 : Int) ≤ (k : Int) := by omega
      have hkc : (k : Int) ≤ (cap : Int) := by omega
      have HF := hid0 (HN.out.trans (nmF_at L k hlt))
      have HIN := hid0 (isName_any L[k] (HZ.out _ (List.getElem_mem hlt)))
      have htk : (L.take k).length = k := by rw [List.length_take]; omega
      have hCN := contains_any (L.take k) (some ⟨b, off, none⟩) cap L[k] wr (by rw [htk]; omega) (HS.out.take k)
      rw [htk] at hCN
      have HCN := hid0 hCN
      clear hCN htk HN
      generalize L[k] = s at *
      by_cases n1 : isNm s.data.toList = false
      · have HV : Hid (nmF [] L = some 1) := hid0 (by rw [HF.out, if_pos n1])
        rw [n1] at HIN
        clear n1 HF
        go_wp2_with (go_at_call 40; refine (HIN.out _).mono ?_; rintro e w1 ⟨rfl, rfl⟩)
        go_ret
        exact ⟨by rw [HV.out]; rfl, rfl⟩
      · have n1' : isNm s.data.toList = true := by simpa using n1
        rw [n1'] at HIN
        by_cases n2 : s = otherB
        · have HV : Hid (nmF [] L = some 0) := hid0 (by rw [HF.out, if_neg n1, if_pos n2])
          clear n1 n1' HF HCN HS HZ
          subst n2
          have hoth : (otherB.toList == [79, 116, 104, 101, 114]) = true := by rw [otherB_list]; rfl
          go_wp2_with (go_at_call 40; refine (HIN.out _).mono ?_; rintro e w1 ⟨rfl, rfl⟩)
          go_ret
          exact ⟨by rw [HV.out]; rfl, rfl⟩
        · have hoth := str_beq s otherB n2
          have hoth2 : (s.toList == [79, 116, 104, 101, 114]) = false := by rw [← otherB_list]; exact hoth
          cases n3 : Lib.containsS (L.take k) s with
          | true =>
            have HV : Hid (nmF [] L = some 4) := hid0 (by rw [HF.out, if_neg n1, if_neg n2, if_pos n3])
            rw [n3] at HCN
            clear n1 n1' HF n2 n3 hoth
            go_wp2_with (first
              | (go_at_call 40; refine (HIN.out _).mono ?_; rintro e w1 ⟨rfl, rfl⟩)
              | (go_at_call 41; refine HCN.out.mono ?_; rintro e w1 ⟨rfl, rfl⟩))
            go_ret
            exact ⟨by rw [HV.out]; rfl, rfl⟩
          | false =>
            have HN2 : Hid (nmF [] L = nmF (L.take (k + 1)) (L.drop (k + 1))) := hid0 (by rw [HF.out, if_neg n1, if_neg n2, if_neg (by rw [n3]; decide)])
            rw [n3] at HCN
            clear n1 n1' HF n2 n3 hoth
            go_wp2_with (first
              | (go_at_call 40; refine (HIN.out _).mono ?_; rintro e w1 ⟨rfl, rfl⟩)
              | (go_at_call 41; refine HCN.out.mono ?_; rintro e w1 ⟨rfl, rfl⟩))
            go_roundw
            case rel => exact ⟨k + 1, by omega, by go_num, HN2, trivial⟩
            case measure => simp [intOf]; omega
    · have hkI : ¬ (k : Int) < (L.length : Int) := by omega
      have HV : Hid (nmF [] L = none) := hid0 (by rw [HN.out, List.drop_of_length_le (by omega)]; rfl)
      go_wp2
      go_ret
      exact ⟨by rw [HV.out]; rfl, rfl⟩
end Go.Proofs.YtpimameogmkpcaaDoor
