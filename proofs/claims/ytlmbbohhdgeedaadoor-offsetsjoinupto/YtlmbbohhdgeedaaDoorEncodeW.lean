/-
  The walk of units.Encode.
-/
import Derived.Test.YtlmbbohhdgeedaaDoorEncW
import Derived.Laws.IdiomStrings
import Derived.Laws.BytesString
namespace Go.Proofs.YtlmbbohhdgeedaaDoor
open Go.RowKit
/-- Numbers in memory, each where it is asked. -/
structure PA (w : World) (a : Option Addr) (ps : List Int) : Prop where
  at' : ∀ k (h : k < ps.length), ∃ b off, a = some ⟨b, off, none⟩ ∧ w.cell? ⟨b, off + k, none⟩ = some (.int .i64 ps[k])
theorem PA.later {w w' : World} {a : Option Addr} {ps : List Int} (h : PA w a ps) (hb : Below w.heap.size w w') : PA w' a ps := ⟨fun k hk => by
  obtain ⟨b, off, rfl, hc⟩ := h.at' k hk
  exact ⟨b, off, rfl, (hb.cell (p := ⟨b, off + k, none⟩) (World.block_lt_of_cell? w _ hc)).trans hc⟩⟩
def encAll (ps : List Int) : List UInt8 := ps.flatMap fun p => encL p.toNat
theorem encL_len (n : Nat) : (encL n).length ≤ 4 := by unfold encL; (repeat' split) <;> simp
theorem encAll_snoc (ps : List Int) (k : Nat) (hk : k < ps.length) : encAll (ps.take (k + 1)) = encAll (ps.take k) ++ encL ps[k].toNat := by
  rw [List.take_succ_eq_append_getElem hk, encAll, List.flatMap_append]
  simp [encAll]
theorem encAll_len (ps : List Int) : (encAll ps).length ≤ 4 * ps.length := by
  induction ps with
  | nil => simp [encAll]
  | cons p ps ih =>
    have := encL_len p.toNat
    rw [encAll, List.flatMap_cons, List.length_append, List.length_cons]
    rw [encAll] at ih
    omega
theorem toStr {w : World} {base : Nat} {v : Value} {l : List UInt8} (h : OwnB w base v l) : (convert 68 9 v).run Tryd.prog w = .ok (.string ⟨l.toArray⟩) w := by
  have h0 := h
  rcases h.2 with ⟨rfl, hn⟩ | ⟨g, cap, cur, rfl, _⟩
  · have : l = [] := List.length_eq_zero_iff.1 hn
    subst this
    rw [run_convert_bytes_string w 68 9 5 none 0 0 Tryd.underlying68 Tryd.underlying5 Tryd.underlying9]; rfl
  · refine run_convert_bytes_back (P := Tryd.prog) w 68 9 5 ⟨g, 0, none⟩ cap l Tryd.underlying68 Tryd.underlying5 Tryd.underlying9 (fun j hj => ?_)
    rw [Addr.add_lit, Nat.zero_add, World.ownsRow.cellAt h0 j (by omega)]
    simp [cellsOf, hj]
theorem OwnB.later {w w' : World} {base : Nat} {v : Value} {l : List UInt8} (h : OwnB w base v l) (hb : Below w.heap.size w w') : OwnB w' base v l := by
  obtain ⟨h1, h2⟩ := h
  refine ⟨h1, ?_⟩
  rcases h2 with h2 | ⟨g, cap, cur, hv, hg, hh, r⟩
  · exact .inl h2
  · exact .inr ⟨g, cap, cur, hv, hg, (hb.block g (Array.getElem?_eq_some_iff.1 hh).1).trans hh, r⟩
/-- What Encode answers. -/
def encVal (ps : List Int) (ev : Value) : Value := if ps.all scalarP then .tuple #[.string ⟨(encAll ps).toArray⟩, .nilIface] else .tuple #[.string ⟨#[]⟩, ev]
theorem all_step (ps : List Int) (k : Nat) (hk : k < ps.length) : (ps.drop k).all scalarP = (scalarP ps[k] && (ps.drop (k + 1)).all scalarP) := by
  rw [List.drop_eq_getElem_cons hk, List.all_cons]
set_option maxRecDepth 10000 in
set_option maxHeartbeats 800000 in
theorem encode_any (ps : List Int) (a : Option Addr) (cap : Nat) (pe : Addr) (hl : ps.length ≤ 20000000) (w : World) (ha : PA w a ps) (hE : w.cell? ⟨0, 0, none⟩ = some (.iface 107 (.pointer (some pe)))) :
    Calls Tryd.prog 16 #[.slice a ps.length cap] w fun e w' => e = .returned (encVal ps (.iface 107 (.pointer (some pe)))) ∧ Below w.heap.size w w' := by
  have HA := hidE ha
  have HE := hidE hE
  have hpos : 0 < w.heap.size := World.block_lt_of_cell? w _ hE
  clear ha hE
  go_enter Tryd.func16, Tryd.ntmps16
  go_wp2
  go_loopw [4, 9] (fun v i wr => ∃ k : Nat, k ≤ ps.length ∧ i = .int .i64 (k : Int) ∧ OwnB wr w.heap.size v (encAll (ps.take k)) ∧ (ps.all scalarP = (ps.drop k).all scalarP) ∧ Below w.heap.size w wr) (fun _ i _ => ps.length - (intOf i).toNat)
  case atStart => exact ⟨0, Nat.zero_le _, rfl, World.ownsRow_nil _ _ _ _, rfl, Below.refl _ _⟩
  case round =>
    obtain ⟨k, hk, rfl, hown, hall, hB⟩ := hrel
    have HO := hidE hown
    have HL := hidE hall
    clear hown hall
    by_cases hlt : k < ps.length
    · obtain ⟨b, off, rfl, hc⟩ := HA.out.at' k hlt
      have hck : wr.cell? ⟨b, off + k, none⟩ = some (.int .i64 ps[k]) := (hB.cell (p := ⟨b, off + k, none⟩) (World.block_lt_of_cell? w _ hc)).trans hc
      have HS := hidE (isScalar_any ps[k])
      have HT := hidE (all_step ps k hlt)
      have HN := hidE (encAll_snoc ps k hlt)
      have hlen := encAll_len (ps.take k)
      rw [List.length_take] at hlen
      have hki : (k : Int) < (ps.length : Int) := by omega
      clear hc
      cases hq : scalarP ps[k] with
      | false =>
        rw [hq] at HS HT
        have HV : Hid (encVal ps (.iface 107 (.pointer (some pe))) = .tuple #[.string ⟨#[]⟩, .iface 107 (.pointer (some pe))]) := by show _ = _; rw [encVal, HL.out, HT.out]; rfl
        have hev : wr.cell? ⟨0, 0, none⟩ = some (.iface 107 (.pointer (some pe))) := (hB.cell (p := ⟨0, 0, none⟩) hpos).trans HE.out
        generalize ps[k] = q at *
        clear HL HT HN HO hq
        go_wp2_with (go_at_call 32; refine (HS.out _).mono ?_; rintro e w1 ⟨rfl, rfl⟩)
        go_region
        all_goals go_wp2
        all_goals
          go_ret2
          exact ⟨by rw [HV.out]; rfl, hB.drew⟩
      | true =>
        rw [hq] at HS HT
        have HL2 : Hid (ps.all scalarP = (ps.drop (k + 1)).all scalarP) := by show _ = _; rw [HL.out, HT.out, Bool.true_and]
        have hq2 := hq
        simp only [scalarP, Bool.and_eq_true, Bool.or_eq_true, decide_eq_true_eq] at hq2
        obtain ⟨m, hm⟩ : ∃ m : Nat, ps[k] = (m : Int) := ⟨ps[k].toNat, by omega⟩
        rw [hm] at hck HS HN hq hq2
        rw [Int.toNat_natCast] at HN
        have HAp := hidE (appendRune_any m hq w.heap.size _ (encAll (ps.take k)) wr HO.out hB.size (by omega))
        clear HL HT HO hq hm
        go_wp2_with (first
          | (go_at_call 32; refine (HS.out _).mono ?_; rintro e w1 ⟨rfl, rfl⟩)
          | (go_at_call 33; refine HAp.out.mono ?_; rintro e w2 ⟨v2, rfl, ho2, hb2⟩; have HO2 := hidE ho2; have HB2 := hidE hb2; clear ho2 hb2)
          | fail)
        go_roundw
        case rel => exact ⟨k + 1, by omega, by go_num, by rw [HN.out]; exact HO2.out, HL2.out, hB.trans HB2.out⟩
        case measure => simp [intOf]; omega
    · have HV : Hid (encVal ps (.iface 107 (.pointer (some pe))) = .tuple #[.string ⟨(encAll ps).toArray⟩, .nilIface]) := by show _ = _; rw [encVal, HL.out, List.drop_of_length_le (by omega)]; rfl
      have hcv := toStr HO.out
      rw [List.take_of_length_le (by omega)] at hcv
      have hki : ¬ (k : Int) < (ps.length : Int) := by omega
      go_wp2
      go_ret2
      exact ⟨by rw [HV.out]; rfl, hB⟩
end Go.Proofs.YtlmbbohhdgeedaaDoor
