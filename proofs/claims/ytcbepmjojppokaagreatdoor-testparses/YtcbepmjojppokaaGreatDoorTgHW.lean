/-
  errors.As at a target of the struct type fault.
-/
import Derived.Test.YtcbepmjojppokaaGreatDoorProg
import Derived.Test.YtcbepmjojppokaaGreatDoorMrBW
import Derived.WalkKit
import Derived.LaidEql
import Derived.Stop.Asserts
import Derived.RowKitTokens
import Derived.Laws.Rows
import Derived.Laws.Tables
namespace Go.Proofs.YtcbepmjojppokaaGreatDoor
open Go.RowKit Go.Extern.Stop Go.Stop Go.Extern
theorem as_nil (t : Value) (w : World) : Calls Tryz.prog 16 #[.nilIface, t] w fun e w' => e = .returned (.bool false) ∧ w' = w := by
  go_enter Tryz.func16, Tryz.ntmps16
  go_wp2
  go_ret
  exact ⟨rfl, rfl⟩
theorem as_vo (t : Addr) (w : World) : (ReflectliteValue.unpack (.iface 44 (.pointer (some t)))).run Tryz.prog w = .ok (.agg #[.pointer (some ⟨21, 44, none⟩), .pointer (some ⟨w.heap.size, 0, none⟩), .int .u64 150]) (w.alloc (.cells #[.pointer (some t)] 44)) := by kernel_rfl
theorem as_ty (a : Addr) (w : World) : (ReflectliteValue.methodAny (ReflectliteValue.valueError "reflectlite.Value.Type" 0) (fun t _ _ _ => ReflectliteType.toType t) #[.agg #[.pointer (some ⟨21, 44, none⟩), .pointer (some a), .int .u64 150]]).run Tryz.prog w = .ok (.iface 101 (.agg #[.pointer (some ⟨21, 44, none⟩)])) w := by kernel_rfl
theorem as_mK (h : Value) (w : World) : (Go.method 324 101 (.agg #[h]) "Kind").run Tryz.prog w = .ok (158, h) w := by kernel_rfl
theorem as_kP (w : World) : ((ReflectliteType.abiMethod fun t => (fun a : Nat => Value.int IntKind.u8 (a : Int)) <$> Rtype.kind t) #[.pointer (some ⟨21, 44, none⟩)]).run Tryz.prog w = .ok (.int .u8 22) w := by kernel_rfl
theorem as_kS (w : World) : ((ReflectliteType.abiMethod fun t => (fun a : Nat => Value.int IntKind.u8 (a : Int)) <$> Rtype.kind t) #[.pointer (some ⟨21, 42, none⟩)]).run Tryz.prog w = .ok (.int .u8 25) w := by kernel_rfl
theorem as_rlm (z : Sem Value) (f : TypeId → Addr → Nat → Nat → Sem Value) (v : Value) :
    ReflectliteValue.method z f #[v] = (do match ← ReflectliteValue.parts v with | none => z | some (t, a, fl) => f t a fl (fl % 32)) := rfl
theorem as_pP (a : Addr) (w : World) : (ReflectliteValue.parts (.agg #[.pointer (some ⟨21, 44, none⟩), .pointer (some a), .int .u64 150])).run Tryz.prog w = .ok (some (44, a, 150)) w := by kernel_rfl
theorem as_nilV (a p : Addr) (W : World) (ha : W.cell? a = some (.pointer (some p))) :
    (ReflectliteValue.method (ReflectliteValue.valueError "reflectlite.Value.IsNil" 0) ReflectliteValue.isNil #[.agg #[.pointer (some ⟨21, 44, none⟩), .pointer (some a), .int .u64 150]]).run Tryz.prog W = .ok (.bool false) W := by
  rw [as_rlm]
  simp only [Sem.run_bind, as_pP, Result.andThen]
  simp [ReflectliteValue.isNil, loadVar, isAgg, underlying, Tryz.underlying44, ha, Result.andThen]
theorem as_mE (h : Value) (w : World) : (Go.method 324 101 (.agg #[h]) "Elem").run Tryz.prog w = .ok (170, .agg #[h]) w := by kernel_rfl
theorem as_mI (h : Value) (w : World) : (Go.method 324 101 (.agg #[h]) "Implements").run Tryz.prog w = .ok (171, .agg #[h]) w := by kernel_rfl
theorem as_mA (h : Value) (w : World) : (Go.method 324 101 (.agg #[h]) "AssignableTo").run Tryz.prog w = .ok (168, .agg #[h]) w := by kernel_rfl
theorem as_eP (w : World) : (ReflectliteType.method ReflectliteType.elem #[.agg #[.pointer (some ⟨21, 44, none⟩)]]).run Tryz.prog w = .ok (.iface 101 (.agg #[.pointer (some ⟨21, 42, none⟩)])) w := by kernel_rfl
theorem as_iS (w : World) : (ReflectliteType.relation "Implements" ReflectliteType.implements_ #[.agg #[.pointer (some ⟨21, 42, none⟩)], .iface 101 (.agg #[.pointer (some ⟨21, 24, none⟩)])]).run Tryz.prog w = .ok (.bool true) w := by kernel_rfl
theorem as_tO (v : Value) (w : World) : (ReflectliteType.typeOf #[.iface 42 v]).run Tryz.prog w = .ok (.iface 101 (.agg #[.pointer (some ⟨21, 42, none⟩)])) w := by kernel_rfl
theorem as_aS (w : World) : (ReflectliteType.relation "AssignableTo" ReflectliteType.assignableTo #[.agg #[.pointer (some ⟨21, 42, none⟩)], .iface 101 (.agg #[.pointer (some ⟨21, 42, none⟩)])]).run Tryz.prog w = .ok (.bool true) w := by kernel_rfl
theorem as_vS (n r : Value) (w : World) : (ReflectliteValue.unpack (.iface 42 (.agg #[n, r]))).run Tryz.prog w = .ok (.agg #[.pointer (some ⟨21, 42, none⟩), .pointer (some ⟨w.heap.size, 0, none⟩), .int .u64 153]) (w.alloc (.cells #[n, r] 42)) := by kernel_rfl
theorem as_el (w : World) : (Rtype.elem? 44).run Tryz.prog w = .ok (some 42) w := by kernel_rfl
theorem as_mk (p : Addr) (w : World) : (ReflectliteValue.mk 42 p ReflectliteValue.flagAddr).run Tryz.prog w = .ok (.agg #[.pointer (some ⟨21, 42, none⟩), .pointer (some p), .int .u64 409]) w := by kernel_rfl
theorem as_eV (a p : Addr) (W : World) (ha : W.cell? a = some (.pointer (some p))) :
    (ReflectliteValue.method (ReflectliteValue.valueError "reflectlite.Value.Elem" 0) ReflectliteValue.elem #[.agg #[.pointer (some ⟨21, 44, none⟩), .pointer (some a), .int .u64 150]]).run Tryz.prog W = .ok (.agg #[.pointer (some ⟨21, 42, none⟩), .pointer (some p), .int .u64 409]) W := by
  rw [as_rlm]
  simp only [Sem.run_bind, as_pP, Result.andThen]
  simp [ReflectliteValue.elem, loadVar, isAgg, underlying, Tryz.underlying44, ha, Result.andThen, as_el, as_mk]
theorem as_rls (v x : Value) : ReflectliteValue.set #[v, x] = (do
    let (some (dst, a, fl), some (src, b, _)) := (← ReflectliteValue.parts v, ← ReflectliteValue.parts x)
      | unsupported (.noEntry "extern/(internal/reflectlite.Value).Set.zeroValue")
    if fl / ReflectliteValue.flagAddr % 2 == 0 then unsupported (.noEntry "extern/(internal/reflectlite.Value).Set.unaddressable")
    let val ← loadVar src b
    if ← Rtype.directlyAssignable dst src then storeVar dst a val
    else if ← Rtype.implements dst src then
      if (← Rtype.kind src) == 20 then
        match val with
        | .nilIface => unsupported (.noEntry "extern/reflectlite: a nil value of one interface type handed on as a value of another")
        | _ => storeVar dst a val
      else storeVar dst a (.iface src val)
    else panicString ("reflectlite.Set: value of type " ++ (← Rtype.spelt src) ++ " is not assignable to type " ++ (← Rtype.spelt dst))
    pure (.tuple #[])) := rfl
theorem as_pA (a : Addr) (w : World) : (ReflectliteValue.parts (.agg #[.pointer (some ⟨21, 42, none⟩), .pointer (some a), .int .u64 409])).run Tryz.prog w = .ok (some (42, a, 409)) w := by kernel_rfl
theorem as_pQ (a : Addr) (w : World) : (ReflectliteValue.parts (.agg #[.pointer (some ⟨21, 42, none⟩), .pointer (some a), .int .u64 153])).run Tryz.prog w = .ok (some (42, a, 153)) w := by kernel_rfl
theorem as_di (w : World) : (Rtype.directlyAssignable 42 42).run Tryz.prog w = .ok true w := by kernel_rfl
theorem as_lv (b : Nat) (n r : Value) (W : World) (h : W.heap[b]? = some (.cells #[n, r] 42 (0, 0))) : (loadVar 42 ⟨b, 0, none⟩).run Tryz.prog W = .ok (.agg #[n, r]) W :=
  run_loadVar_row W b 42 42 #[n, r] (0, 0) _ h Tryz.underlying42 rfl (by kernel_rfl)
/-- The fault's variable gets what the Value's own variable holds. -/
theorem as_set (tb b : Nat) (n r n' r' : Value) (W : World) (hb : W.heap[b]? = some (.cells #[n, r] 42 (0, 0))) (ht : W.heap[tb]? = some (.cells #[n', r'] 42 (0, 0))) (o1 : n.oneCell' = true) (o2 : r.oneCell' = true) :
    (ReflectliteValue.set #[.agg #[.pointer (some ⟨21, 42, none⟩), .pointer (some ⟨tb, 0, none⟩), .int .u64 409], .agg #[.pointer (some ⟨21, 42, none⟩), .pointer (some ⟨b, 0, none⟩), .int .u64 153]]).run Tryz.prog W = .ok (.tuple #[]) (W.setRow tb #[n, r]) := by
  have e1 := as_lv b n r W hb
  have e2 := run_storeVar_row (P := Tryz.prog) W tb 42 42 #[n', r'] #[n, r] ht (by kernel_rfl) rfl (by simp [o1, o2])
  rw [as_rls]
  simp only [Sem.run_bind, as_pA, as_pQ, Result.andThen]
  simp [ReflectliteValue.flagAddr, e1, Result.andThen, as_di, e2]
theorem heap_alloc_new' (w : World) (o : Obj) (n : Nat) (h : n = w.heap.size) : (w.alloc o).heap[n]? = some o := by subst h; exact heap_alloc_new w o
set_option maxRecDepth 100000 in
set_option maxHeartbeats 4000000 in
theorem as_hit (n r n' r' : Value) (tb : Nat) (w : World) (hg : w.cell? ⟨7, 0, none⟩ = some (.iface 101 (.agg #[.pointer (some ⟨21, 24, none⟩)]))) (ht : w.heap[tb]? = some (.cells #[n', r'] 42 (0, 0))) (o1 : n.oneCell' = true) (o2 : r.oneCell' = true) :
    Calls Tryz.prog 16 #[.iface 42 (.agg #[n, r]), .iface 44 (.pointer (some ⟨tb, 0, none⟩))] w fun ev w' => ev = .returned (.bool true) ∧ ∃ W, Below w.heap.size w W ∧ w' = W.setRow tb #[n, r] ∧ W.heap[tb]? = some (.cells #[n', r'] 42 (0, 0)) := by
  have h1 := @run_callFunc_extern Tryz.prog 29 _ (fun args => ReflectliteValue.unpack (args.getD 0 (.tuple #[]))) Tryz.func29 (by kernel_rfl) (by kernel_rfl) (by kernel_rfl) (by kernel_rfl)
  have h2 := @run_callFunc_extern Tryz.prog 30 _ (ReflectliteValue.methodAny (ReflectliteValue.valueError "reflectlite.Value.Type" 0) (fun t _ _ _ => ReflectliteType.toType t)) Tryz.func30 (by kernel_rfl) (by kernel_rfl) (by kernel_rfl) (by kernel_rfl)
  have h3 := @run_callFunc_extern Tryz.prog 31 _ (ReflectliteValue.method (ReflectliteValue.valueError "reflectlite.Value.IsNil" 0) ReflectliteValue.isNil) Tryz.func31 (by kernel_rfl) (by kernel_rfl) (by kernel_rfl) (by kernel_rfl)
  have h4 := @run_callFunc_extern Tryz.prog 158 _ (ReflectliteType.abiMethod fun t => do pure (.int .u8 (← Rtype.kind t))) Tryz.func158 (by kernel_rfl) (by kernel_rfl) (by kernel_rfl) (by kernel_rfl)
  have h5 := @run_callFunc_extern Tryz.prog 170 _ (ReflectliteType.method ReflectliteType.elem) Tryz.func170 (by kernel_rfl) (by kernel_rfl) (by kernel_rfl) (by kernel_rfl)
  have h6 := @run_callFunc_extern Tryz.prog 171 _ (ReflectliteType.relation "Implements" ReflectliteType.implements_) Tryz.func171 (by kernel_rfl) (by kernel_rfl) (by kernel_rfl) (by kernel_rfl)
  have h7 := @run_callFunc_extern Tryz.prog 50 _ ReflectliteType.typeOf Tryz.func50 (by kernel_rfl) (by kernel_rfl) (by kernel_rfl) (by kernel_rfl)
  have h8 := @run_callFunc_extern Tryz.prog 168 _ (ReflectliteType.relation "AssignableTo" ReflectliteType.assignableTo) Tryz.func168 (by kernel_rfl) (by kernel_rfl) (by kernel_rfl) (by kernel_rfl)
  have h9 := @run_callFunc_extern Tryz.prog 51 _ (ReflectliteValue.method (ReflectliteValue.valueError "reflectlite.Value.Elem" 0) ReflectliteValue.elem) Tryz.func51 (by kernel_rfl) (by kernel_rfl) (by kernel_rfl) (by kernel_rfl)
  have h10 := @run_callFunc_extern Tryz.prog 52 _ ReflectliteValue.set Tryz.func52 (by kernel_rfl) (by kernel_rfl) (by kernel_rfl) (by kernel_rfl)
  have tO := as_tO
  have mA := as_mA
  have a25 := as_aS
  have v25 := as_vS
  have f6 := as_vo
  have f7 := as_ty
  have mK := as_mK
  have mE := as_mE
  have mI := as_mI
  have k27 := as_kP
  have k25 := as_kS
  have e27 := as_eP
  have i25 := as_iS
  have hlt := World.block_lt_of_cell? w _ hg
  have htl := (Array.getElem?_eq_some_iff.1 ht).1
  have n8 := as_nilV ⟨w.heap.size, 0, none⟩ ⟨tb, 0, none⟩ ((w.alloc (.cells #[.pointer (some ⟨tb, 0, none⟩)] 44)).alloc (.cells #[.pointer (some ⟨21, 44, none⟩), .pointer (some ⟨w.heap.size, 0, none⟩), .int .u64 150] 68)) (by simp)
  have hg2 : ((w.alloc (.cells #[.pointer (some ⟨tb, 0, none⟩)] 44)).alloc (.cells #[.pointer (some ⟨21, 44, none⟩), .pointer (some ⟨w.heap.size, 0, none⟩), .int .u64 150] 68)).cell? ⟨7, 0, none⟩ = some (.iface 101 (.agg #[.pointer (some ⟨21, 24, none⟩)])) := by
    rw [World.cell?_alloc_lt _ _ ⟨7, 0, none⟩ (by have := hlt; simp at this ⊢; omega), World.cell?_alloc_lt _ _ ⟨7, 0, none⟩ hlt]; exact hg
  have el := as_eV ⟨w.heap.size, 0, none⟩ ⟨tb, 0, none⟩ (((w.alloc (.cells #[.pointer (some ⟨tb, 0, none⟩)] 44)).alloc (.cells #[.pointer (some ⟨21, 44, none⟩), .pointer (some ⟨w.heap.size, 0, none⟩), .int .u64 150] 68)).alloc (.cells #[.pointer (some ⟨21, 44, none⟩), .pointer (some ⟨w.heap.size, 0, none⟩), .int .u64 150] 68)) (by rw [World.cell?_alloc_lt _ _ ⟨w.heap.size, 0, none⟩ (by simp; omega)]; simp)
  obtain ⟨W4, hW4⟩ : ∃ W4, W4 = (((w.alloc (.cells #[.pointer (some ⟨tb, 0, none⟩)] 44)).alloc (.cells #[.pointer (some ⟨21, 44, none⟩), .pointer (some ⟨w.heap.size, 0, none⟩), .int .u64 150] 68)).alloc (.cells #[.pointer (some ⟨21, 44, none⟩), .pointer (some ⟨w.heap.size, 0, none⟩), .int .u64 150] 68)).alloc (.cells #[n, r] 42) := ⟨_, rfl⟩
  have hB : Below w.heap.size w W4 := by
    rw [hW4]
    exact ((((Below.refl _ _).alloc (Nat.le_refl _) _).alloc (by simp) _).alloc (by simp; omega) _).alloc (by simp; omega) _
  have ht4 : W4.heap[tb]? = some (.cells #[n', r'] 42 (0, 0)) := (hB.block tb htl).trans ht
  have st := as_set tb (w.heap.size + 1 + 1 + 1) n r n' r' W4 (by rw [hW4]; exact heap_alloc_new' _ _ _ (by simp)) ht4 o1 o2
  rw [hW4] at st
  have HF := hid0 (And.intro hB (And.intro hW4 ht4))
  clear hB hW4 ht4
  go_enter Tryz.func16, Tryz.ntmps16
  go_wp2
  refine wp_loop_rounds 1 ?_
  rw [rounds_succ]
  go_wp2
  go_ret
  exact ⟨rfl, W4, HF.out.1, by rw [HF.out.2.1], HF.out.2.2⟩
end Go.Proofs.YtcbepmjojppokaaGreatDoor
