/- errors.As at a target of type *api.Errno: a nil error, and an error that is an Errno itself. -/
import Derived.Test.YthijccmiemlilaaGreatDoorProg
import Derived.WalkKit
import Derived.LaidEql
import Derived.Stop.Asserts
import Derived.RowKitTokens
import Derived.Test.YthijccmiemlilaaGreatDoorA3
namespace Go.Proofs.YthijccmiemlilaaGreatDoor
open Go.RowKit Go.Extern.Stop Go.Stop Go.Extern

theorem as_nil (t : Value) (w : World) :
    Calls Tryz.prog 86 #[.nilIface, t] w fun e w' => e = .returned (.bool false) ∧ w' = w := by
  go_enter Tryz.func86, Tryz.ntmps86
  go_wp2
  go_ret
  exact ⟨rfl, rfl⟩

theorem Er.valueOf27 (t : Addr) (w : World) : (ReflectliteValue.unpack (.iface 148 (.pointer (some t)))).run Tryz.prog w
    = .ok (.agg #[.pointer (some ⟨10, 148, none⟩), .pointer (some ⟨w.heap.size, 0, none⟩), .int .u64 150]) (w.alloc (.cells #[.pointer (some t)] 148)) := by kernel_rfl
theorem Er.type27 (a : Addr) (w : World) : (ReflectliteValue.methodAny (ReflectliteValue.valueError "reflectlite.Value.Type" 0) (fun t _ _ _ => ReflectliteType.toType t) #[.agg #[.pointer (some ⟨10, 148, none⟩), .pointer (some a), .int .u64 150]]).run Tryz.prog w
    = .ok (.iface 207 (.agg #[.pointer (some ⟨10, 148, none⟩)])) w := by kernel_rfl
theorem Er.methodKind (h : Value) (w : World) : (Go.method 388 207 (.agg #[h]) "Kind").run Tryz.prog w = .ok (209, h) w := by kernel_rfl
theorem Er.kind27 (w : World) : ((ReflectliteType.abiMethod fun t => (fun a : Nat => Value.int IntKind.u8 (a : Int)) <$> Rtype.kind t) #[.pointer (some ⟨10, 148, none⟩)]).run Tryz.prog w = .ok (.int .u8 22) w := by kernel_rfl
theorem Er.kind25 (w : World) : ((ReflectliteType.abiMethod fun t => (fun a : Nat => Value.int IntKind.u8 (a : Int)) <$> Rtype.kind t) #[.pointer (some ⟨10, 40, none⟩)]).run Tryz.prog w = .ok (.int .u8 2) w := by kernel_rfl

theorem rlm (z : Sem Value) (f : TypeId → Addr → Nat → Nat → Sem Value) (v : Value) :
    ReflectliteValue.method z f #[v] = (do match ← ReflectliteValue.parts v with | none => z | some (t, a, fl) => f t a fl (fl % 32)) := rfl
theorem Er.parts27 (a : Addr) (w : World) : (ReflectliteValue.parts (.agg #[.pointer (some ⟨10, 148, none⟩), .pointer (some a), .int .u64 150])).run Tryz.prog w = .ok (some (148, a, 150)) w := by kernel_rfl
theorem Er.isNil27 (a p : Addr) (W : World) (ha : W.cell? a = some (.pointer (some p))) :
    (ReflectliteValue.method (ReflectliteValue.valueError "reflectlite.Value.IsNil" 0) ReflectliteValue.isNil #[.agg #[.pointer (some ⟨10, 148, none⟩), .pointer (some a), .int .u64 150]]).run Tryz.prog W = .ok (.bool false) W := by
  rw [rlm]
  simp only [Sem.run_bind, Er.parts27, Result.andThen]
  simp [ReflectliteValue.isNil, loadVar, isAgg, underlying, Tryz.underlying148, ha, Result.andThen]

theorem Er.methodElem (h : Value) (w : World) : (Go.method 388 207 (.agg #[h]) "Elem").run Tryz.prog w = .ok (221, .agg #[h]) w := by kernel_rfl
theorem Er.methodImplements (h : Value) (w : World) : (Go.method 388 207 (.agg #[h]) "Implements").run Tryz.prog w = .ok (222, .agg #[h]) w := by kernel_rfl
theorem Er.methodAssignableTo (h : Value) (w : World) : (Go.method 388 207 (.agg #[h]) "AssignableTo").run Tryz.prog w = .ok (219, .agg #[h]) w := by kernel_rfl
theorem Er.elem27 (w : World) : (ReflectliteType.method ReflectliteType.elem #[.agg #[.pointer (some ⟨10, 148, none⟩)]]).run Tryz.prog w = .ok (.iface 207 (.agg #[.pointer (some ⟨10, 40, none⟩)])) w := by kernel_rfl
theorem Er.implements25 (w : World) : (ReflectliteType.relation "Implements" ReflectliteType.implements_ #[.agg #[.pointer (some ⟨10, 40, none⟩)], .iface 207 (.agg #[.pointer (some ⟨10, 38, none⟩)])]).run Tryz.prog w = .ok (.bool true) w := by kernel_rfl
theorem Er.typeOf25 (v : Value) (w : World) : (ReflectliteType.typeOf #[.iface 40 v]).run Tryz.prog w = .ok (.iface 207 (.agg #[.pointer (some ⟨10, 40, none⟩)])) w := by kernel_rfl
theorem Er.assignable25 (w : World) : (ReflectliteType.relation "AssignableTo" ReflectliteType.assignableTo #[.agg #[.pointer (some ⟨10, 40, none⟩)], .iface 207 (.agg #[.pointer (some ⟨10, 40, none⟩)])]).run Tryz.prog w = .ok (.bool true) w := by kernel_rfl
theorem Er.valueOf25 (e : Int) (w : World) : (ReflectliteValue.unpack (.iface 40 (.int .i64 e))).run Tryz.prog w
    = .ok (.agg #[.pointer (some ⟨10, 40, none⟩), .pointer (some ⟨w.heap.size, 0, none⟩), .int .u64 130]) (w.alloc (.cells #[.int .i64 e] 40)) := by kernel_rfl

theorem Er.elemOf27 (w : World) : (Rtype.elem? 148).run Tryz.prog w = .ok (some 40) w := by kernel_rfl
theorem Er.mk25 (p : Addr) (w : World) : (ReflectliteValue.mk 40 p ReflectliteValue.flagAddr).run Tryz.prog w = .ok (.agg #[.pointer (some ⟨10, 40, none⟩), .pointer (some p), .int .u64 386]) w := by kernel_rfl
theorem Er.elemV27 (a p : Addr) (W : World) (ha : W.cell? a = some (.pointer (some p))) :
    (ReflectliteValue.method (ReflectliteValue.valueError "reflectlite.Value.Elem" 0) ReflectliteValue.elem #[.agg #[.pointer (some ⟨10, 148, none⟩), .pointer (some a), .int .u64 150]]).run Tryz.prog W
      = .ok (.agg #[.pointer (some ⟨10, 40, none⟩), .pointer (some p), .int .u64 386]) W := by
  rw [rlm]
  simp only [Sem.run_bind, Er.parts27, Result.andThen]
  simp [ReflectliteValue.elem, loadVar, isAgg, underlying, Tryz.underlying148, ha, Result.andThen, Er.elemOf27, Er.mk25]
theorem rls (v x : Value) : ReflectliteValue.set #[v, x] = (do
    let (some (dst, a, fl), some (src, b, _)) := (← ReflectliteValue.parts v, ← ReflectliteValue.parts x)
      | unsupported (.noEntry "extern/(internal/reflectlite.Value).Set.zeroValue")
    if fl / ReflectliteValue.flagAddr % 2 == 0 then unsupported (.noEntry "extern/(internal/reflectlite.Value).Set.unaddressable")
    let val ← loadVar src b
    if ← Rtype.directlyAssignable dst src then storeVar dst a val
    else if ← Rtype.implements dst src then
      if (← Rtype.kind src) == 20 then
        match val with
        | .nilIface => unsupported (.noEntry "extern/reflectlite: a nil value of one interface type handed on as a value of another")
        | _ => storeVar dst a val
      else storeVar dst a (.iface src val)
    else panicString ("reflectlite.Set: value of type " ++ (← Rtype.spelt src) ++ " is not assignable to type " ++ (← Rtype.spelt dst))
    pure (.tuple #[])) := rfl
theorem Er.parts25a (a : Addr) (w : World) : (ReflectliteValue.parts (.agg #[.pointer (some ⟨10, 40, none⟩), .pointer (some a), .int .u64 386])).run Tryz.prog w = .ok (some (40, a, 386)) w := by kernel_rfl
theorem Er.parts25 (a : Addr) (w : World) : (ReflectliteValue.parts (.agg #[.pointer (some ⟨10, 40, none⟩), .pointer (some a), .int .u64 130])).run Tryz.prog w = .ok (some (40, a, 130)) w := by kernel_rfl
theorem Er.direct25 (w : World) : (Rtype.directlyAssignable 40 40).run Tryz.prog w = .ok true w := by kernel_rfl
theorem Er.size25 (w : World) : (sizeOf 40).run Tryz.prog w = .ok 1 w := by kernel_rfl
theorem Er.set25 (ta b : Addr) (e : Int) (old : Value) (W : World) (hb : W.cell? b = some (.int .i64 e)) (ht : W.cell? ta = some old) (hf : W.frozen? ta = false) :
    (ReflectliteValue.set #[.agg #[.pointer (some ⟨10, 40, none⟩), .pointer (some ta), .int .u64 386], .agg #[.pointer (some ⟨10, 40, none⟩), .pointer (some b), .int .u64 130]]).run Tryz.prog W
      = .ok (.tuple #[]) (W.setCell ta (.int .i64 e)) := by
  rw [rls]
  simp only [Sem.run_bind, Er.parts25a, Er.parts25, Result.andThen]
  simp [ReflectliteValue.flagAddr, loadVar, isAgg, underlying, Tryz.underlying40, hb, Result.andThen, Er.direct25, storeVar, Value.cells, storeCells, Addr.add]
  rw [run_store Tryz.prog W ta _ _ (by rfl)]
  simp [ht, hf]

set_option maxHeartbeats 4000000 in
theorem as_hit (e : Int) (t : Addr) (old : Value) (w : World) (hg : w.cell? ⟨3, 0, none⟩ = some (.iface 207 (.agg #[.pointer (some ⟨10, 38, none⟩)]))) (ht0 : w.cell? t = some old) (hf0 : w.frozen? t = false) :
    Calls Tryz.prog 86 #[.iface 40 (.int .i64 e), .iface 148 (.pointer (some t))] w fun ev w' => ev = .returned (.bool true) ∧ w' = ((((w.alloc (.cells #[.pointer (some t)] 148)).alloc (.cells #[.pointer (some ⟨10, 148, none⟩), .pointer (some ⟨w.heap.size, 0, none⟩), .int .u64 150] 187)).alloc (.cells #[.pointer (some ⟨10, 148, none⟩), .pointer (some ⟨w.heap.size, 0, none⟩), .int .u64 150] 187)).alloc (.cells #[.int .i64 e] 40)).setCell t (.int .i64 e) := by
  have h6 := @run_callFunc_extern Tryz.prog 124 _ (fun args => ReflectliteValue.unpack (args.getD 0 (.tuple #[]))) Tryz.func124 (by kernel_rfl) (by kernel_rfl) (by kernel_rfl) (by kernel_rfl)
  have h7 := @run_callFunc_extern Tryz.prog 125 _ (ReflectliteValue.methodAny (ReflectliteValue.valueError "reflectlite.Value.Type" 0) (fun t _ _ _ => ReflectliteType.toType t)) Tryz.func125 (by kernel_rfl) (by kernel_rfl) (by kernel_rfl) (by kernel_rfl)
  have h8 := @run_callFunc_extern Tryz.prog 126 _ (ReflectliteValue.method (ReflectliteValue.valueError "reflectlite.Value.IsNil" 0) ReflectliteValue.isNil) Tryz.func126 (by kernel_rfl) (by kernel_rfl) (by kernel_rfl) (by kernel_rfl)
  have h27 := @run_callFunc_extern Tryz.prog 209 _ (ReflectliteType.abiMethod fun t => do pure (.int .u8 (← Rtype.kind t))) Tryz.func209 (by kernel_rfl) (by kernel_rfl) (by kernel_rfl) (by kernel_rfl)
  have h37 := @run_callFunc_extern Tryz.prog 221 _ (ReflectliteType.method ReflectliteType.elem) Tryz.func221 (by kernel_rfl) (by kernel_rfl) (by kernel_rfl) (by kernel_rfl)
  have h38 := @run_callFunc_extern Tryz.prog 222 _ (ReflectliteType.relation "Implements" ReflectliteType.implements_) Tryz.func222 (by kernel_rfl) (by kernel_rfl) (by kernel_rfl) (by kernel_rfl)
  have h10 := @run_callFunc_extern Tryz.prog 143 _ ReflectliteType.typeOf Tryz.func143 (by kernel_rfl) (by kernel_rfl) (by kernel_rfl) (by kernel_rfl)
  have h35 := @run_callFunc_extern Tryz.prog 219 _ (ReflectliteType.relation "AssignableTo" ReflectliteType.assignableTo) Tryz.func219 (by kernel_rfl) (by kernel_rfl) (by kernel_rfl) (by kernel_rfl)
  have h11 := @run_callFunc_extern Tryz.prog 144 _ (ReflectliteValue.method (ReflectliteValue.valueError "reflectlite.Value.Elem" 0) ReflectliteValue.elem) Tryz.func144 (by kernel_rfl) (by kernel_rfl) (by kernel_rfl) (by kernel_rfl)
  have h12 := @run_callFunc_extern Tryz.prog 145 _ ReflectliteValue.set Tryz.func145 (by kernel_rfl) (by kernel_rfl) (by kernel_rfl) (by kernel_rfl)
  have tO := Er.typeOf25
  have mA := Er.methodAssignableTo
  have a25 := Er.assignable25
  have v25 := Er.valueOf25
  have f6 := Er.valueOf27
  have f7 := Er.type27
  have mK := Er.methodKind
  have mE := Er.methodElem
  have mI := Er.methodImplements
  have k27 := Er.kind27
  have k25 := Er.kind25
  have e27 := Er.elem27
  have i25 := Er.implements25
  have n8 := Er.isNil27 ⟨w.heap.size, 0, none⟩ t ((w.alloc (.cells #[.pointer (some t)] 148)).alloc (.cells #[.pointer (some ⟨10, 148, none⟩), .pointer (some ⟨w.heap.size, 0, none⟩), .int .u64 150] 187)) (by simp)
  have hlt : 3 < w.heap.size := by
    rcases Nat.lt_or_ge 3 w.heap.size with h | h
    · exact h
    · simp [World.cell?, Array.getElem?_eq_none h] at hg
  have hg2 : ((w.alloc (.cells #[.pointer (some t)] 148)).alloc (.cells #[.pointer (some ⟨10, 148, none⟩), .pointer (some ⟨w.heap.size, 0, none⟩), .int .u64 150] 187)).cell? ⟨3, 0, none⟩ = some (.iface 207 (.agg #[.pointer (some ⟨10, 38, none⟩)])) := by
    rw [World.cell?_alloc_lt _ _ ⟨3, 0, none⟩ (by simp; omega), World.cell?_alloc_lt _ _ ⟨3, 0, none⟩ hlt]; exact hg
  have htl : t.block < w.heap.size := by
    rcases Nat.lt_or_ge t.block w.heap.size with h | h
    · exact h
    · simp [World.cell?, Array.getElem?_eq_none h] at ht0
  have el := Er.elemV27 ⟨w.heap.size, 0, none⟩ t (((w.alloc (.cells #[.pointer (some t)] 148)).alloc (.cells #[.pointer (some ⟨10, 148, none⟩), .pointer (some ⟨w.heap.size, 0, none⟩), .int .u64 150] 187)).alloc (.cells #[.pointer (some ⟨10, 148, none⟩), .pointer (some ⟨w.heap.size, 0, none⟩), .int .u64 150] 187)) (by rw [World.cell?_alloc_lt _ _ ⟨w.heap.size, 0, none⟩ (by simp; omega)]; simp)
  have st := Er.set25 t ⟨w.heap.size + 1 + 1 + 1, 0, none⟩ e old ((((w.alloc (.cells #[.pointer (some t)] 148)).alloc (.cells #[.pointer (some ⟨10, 148, none⟩), .pointer (some ⟨w.heap.size, 0, none⟩), .int .u64 150] 187)).alloc (.cells #[.pointer (some ⟨10, 148, none⟩), .pointer (some ⟨w.heap.size, 0, none⟩), .int .u64 150] 187)).alloc (.cells #[.int .i64 e] 40))
    (by rw [World.cell?_alloc_at _ _ _ _ (by simp)]; rfl)
    (by rw [World.cell?_alloc_lt _ _ t (by simp; omega), World.cell?_alloc_lt _ _ t (by simp; omega), World.cell?_alloc_lt _ _ t (by simp; omega), World.cell?_alloc_lt _ _ t htl]; exact ht0)
    (by rw [World.frozen?_alloc_old _ _ t (by simp; omega), World.frozen?_alloc_old _ _ t (by simp; omega), World.frozen?_alloc_old _ _ t (by simp; omega), World.frozen?_alloc_old _ _ t (Nat.ne_of_lt htl)]; exact hf0)
  go_enter Tryz.func86, Tryz.ntmps86
  go_wp2
  refine wp_loop_rounds 1 ?_
  rw [rounds_succ]
  go_wp2
  go_ret
  exact ⟨rfl, rfl⟩
end Go.Proofs.YthijccmiemlilaaGreatDoor
namespace Go.Proofs.YthijccmiemlilaaGreatDoor
open Go.RowKit Go.Shelf Go.Sort

/-- What errors.errorType holds. -/
structure ErrT (w : World) : Prop where
  out : w.cell? ⟨3, 0, none⟩ = some (.iface 207 (.agg #[.pointer (some ⟨10, 38, none⟩)]))
theorem ErrT.on {w w' : World} (h : ErrT w) (b : Below w.heap.size w w') : ErrT w' := ⟨by rw [b.cell (block_lt_of_cell h.out)]; exact h.out⟩

theorem tell_nil (w : World) : Calls Tryz.prog 61 #[.nilIface] w fun e w' => e = .returned (.int .i64 0) ∧ w' = w := by
  go_enter Tryz.func61, Tryz.ntmps61
  go_wp2
  go_ret
  exact ⟨rfl, rfl⟩

theorem b5 (w : World) (A B C D E : Obj) : Below w.heap.size w (((((w.alloc A).alloc B).alloc C).alloc D).alloc E) :=
  ((((((Below.refl _ _).alloc (Nat.le_refl _) _).alloc (by simp) _).alloc (by simp; omega) _).alloc (by simp; omega) _).alloc (by simp; omega) _)

set_option maxHeartbeats 1600000 in
set_option maxRecDepth 100000 in
theorem tell_errno (e : Int) (w : World) (hg : ErrT w) : Calls Tryz.prog 61 #[.iface 40 (.int .i64 e)] w fun x w' => x = .returned (.int .i64 e) ∧ Below w.heap.size w w' := by
  have bA : Below w.heap.size w (w.alloc (.cells #[.int .i64 0] 40)) := (Below.refl _ _).alloc (Nat.le_refl _) _
  have hA := (hg.on bA).out
  have cA := as_hit e ⟨w.heap.size, 0, none⟩ (.int .i64 0) (w.alloc (.cells #[.int .i64 0] 40)) hA (by simp) (by simp)
  have HA := Lib.hid cA
  clear cA hA
  go_enter Tryz.func61, Tryz.ntmps61
  go_wp2_with (go_at_call 86; refine HA.out.mono ?_; rintro x w' ⟨rfl, rfl⟩)
  go_ret
  exact ⟨rfl, b5 _ _ _ _ _ _⟩

set_option maxHeartbeats 1600000 in
set_option maxRecDepth 100000 in
theorem place_nil (w : World) : Calls Tryz.prog 28 #[.nilIface] w fun x w' => x = .returned (.tuple #[.int .i64 0, .int .i64 (-1)]) ∧ w' = w := by
  go_enter Tryz.func28, Tryz.ntmps28
  go_wp2_with (go_at_call 61; refine (tell_nil _).mono ?_; rintro x w' ⟨rfl, rfl⟩)
  refine wp_loop_rounds 1 ?_
  rw [rounds_succ]
  go_wp2
  go_ret2
  exact ⟨rfl, rfl⟩

theorem as_at (e : Int) (w : World) : (Instr.typeAssert (.iface 40 (.int .i64 e)) 38 84 true).run Tryz.prog w = .ok (.tuple #[.pointer none, .bool false]) w := by kernel_rfl
theorem as_un (e : Int) (w : World) : (Instr.typeAssert (.iface 40 (.int .i64 e)) 38 123 true).run Tryz.prog w = .ok (.tuple #[.nilIface, .bool false]) w := run_typeAssert_lacksB Tryz.underlying123 (by kernel_rfl) (by kernel_rfl) _ _ w

set_option maxHeartbeats 1600000 in
set_option maxRecDepth 100000 in
theorem place_errno (e : Int) (w : World) (hg : ErrT w) : Calls Tryz.prog 28 #[.iface 40 (.int .i64 e)] w fun x w' => x = .returned (.tuple #[.int .i64 e, .int .i64 (-1)]) ∧ Below w.heap.size w w' := by
  have hA := as_at e
  have hU := as_un e
  go_enter Tryz.func28, Tryz.ntmps28
  go_wp2_with (go_at_call 61; refine (tell_errno e _ hg).mono ?_; rintro x w1 ⟨rfl, b1⟩)
  refine wp_loop_rounds 1 ?_
  rw [rounds_succ]
  go_wp2
  go_ret2
  exact ⟨rfl, b1⟩

theorem bareF_any (e : Int) (w : World) : Calls Tryz.prog 35 #[.int .i64 e] w fun x w' => x = .returned (.agg #[.int .i64 e, .int .i64 (-1)]) ∧ Below w.heap.size w w' := by
  go_enter Tryz.func35, Tryz.ntmps35
  go_wp2
  exact bodyPost_ret (v := .agg #[.int .i64 e, .int .i64 (-1)]) (by simp [results, Tryz.results35, go_sem]) rfl ⟨rfl, (Below.refl _ _).alloc (Nat.le_refl _) _⟩

set_option maxHeartbeats 1600000 in
set_option maxRecDepth 100000 in
theorem is_nil (w : World) : Calls Tryz.prog 8 #[.nilIface, .agg #[.int .i64 0, .int .i64 (-1)]] w fun x w' => x = .returned (.bool true) ∧ Below w.heap.size w w' := by
  go_enter Tryz.func8, Tryz.ntmps8
  go_wp2_with (go_at_call 28; refine (place_nil _).mono ?_; rintro x w' ⟨rfl, rfl⟩)
  go_ret
  exact ⟨rfl, (Below.refl _ _).alloc (Nat.le_refl _) _⟩

set_option maxHeartbeats 1600000 in
set_option maxRecDepth 100000 in
theorem is_errno (c : Int) (w : World) (hg : ErrT w) : Calls Tryz.prog 8 #[.iface 40 (.int .i64 c), .agg #[.int .i64 c, .int .i64 (-1)]] w fun x w' => x = .returned (.bool true) ∧ Below w.heap.size w w' := by
  have bA : Below w.heap.size w (w.alloc (.cells #[.int .i64 c, .int .i64 (-1)] 42)) := (Below.refl _ _).alloc (Nat.le_refl _) _
  have hgA := hg.on bA
  go_enter Tryz.func8, Tryz.ntmps8
  go_wp2_with fail
  refine (place_errno c _ hgA).mono ?_
  rintro x w1 ⟨rfl, b1⟩
  have c0 : w1.cell? ⟨w.heap.size, 0, none⟩ = some (.int .i64 c) := by rw [b1.cell (by simp)]; simp
  have c1 : w1.cell? ⟨w.heap.size, 1, none⟩ = some (.int .i64 (-1)) := by rw [b1.cell (by simp)]; simp
  go_wp2
  go_ret
  exact ⟨rfl, bon bA b1⟩

end Go.Proofs.YthijccmiemlilaaGreatDoor
namespace Go.Proofs.YthijccmiemlilaaGreatDoor
open Go.RowKit Go.Shelf Go.Sort Go.Extern.Stop Go.Stop Go.Extern

theorem At.typeOf (v : Value) (w : World) : (ReflectliteType.typeOf #[.iface 84 v]).run Tryz.prog w = .ok (.iface 207 (.agg #[.pointer (some ⟨10, 84, none⟩)])) w := by kernel_rfl
theorem At.assignable (w : World) : (ReflectliteType.relation "AssignableTo" ReflectliteType.assignableTo #[.agg #[.pointer (some ⟨10, 84, none⟩)], .iface 207 (.agg #[.pointer (some ⟨10, 40, none⟩)])]).run Tryz.prog w = .ok (.bool false) w := by kernel_rfl
theorem At.noAs (v : Value) (xT : TypeId) (w : World) : (Instr.typeAssert (.iface 84 v) xT 212 true).run Tryz.prog w = .ok (.tuple #[.nilIface, .bool false]) w := run_typeAssert_lacksB Tryz.underlying212 (by kernel_rfl) (by kernel_rfl) v xT w
theorem At.un (v : Value) (xT : TypeId) (w : World) : (Instr.typeAssert (.iface 84 v) xT 123 true).run Tryz.prog w = .ok (.tuple #[.iface 84 v, .bool true]) w := run_typeAssert_hasB Tryz.underlying123 (by kernel_rfl) v xT w
theorem At.at (v : Value) (w : World) : (Instr.typeAssert (.iface 84 v) 38 84 true).run Tryz.prog w = .ok (.tuple #[v, .bool true]) w := by kernel_rfl
theorem At.methodUnwrap (h : Value) (w : World) : (Go.method 388 84 h "Unwrap").run Tryz.prog w = .ok (214, h) w := by kernel_rfl

set_option maxHeartbeats 8000000 in
set_option maxRecDepth 100000 in
theorem as_at_hit (e : Int) (p : Nat) (t : Addr) (old : Value) (w : World) (hg : w.cell? ⟨3, 0, none⟩ = some (.iface 207 (.agg #[.pointer (some ⟨10, 38, none⟩)]))) (ht0 : w.cell? t = some old) (hf0 : w.frozen? t = false) (hp0 : w.cell? ⟨p, 0, none⟩ = some (.int .i64 e)) :
    Calls Tryz.prog 86 #[.iface 84 (.pointer (some ⟨p, 0, none⟩)), .iface 148 (.pointer (some t))] w fun ev w' => ev = .returned (.bool true) ∧ w' = ((((w.alloc (.cells #[.pointer (some t)] 148)).alloc (.cells #[.pointer (some ⟨10, 148, none⟩), .pointer (some ⟨w.heap.size, 0, none⟩), .int .u64 150] 187)).alloc (.cells #[.pointer (some ⟨10, 148, none⟩), .pointer (some ⟨w.heap.size, 0, none⟩), .int .u64 150] 187)).alloc (.cells #[.int .i64 e] 40)).setCell t (.int .i64 e) := by
  have h6 := @run_callFunc_extern Tryz.prog 124 _ (fun args => ReflectliteValue.unpack (args.getD 0 (.tuple #[]))) Tryz.func124 (by kernel_rfl) (by kernel_rfl) (by kernel_rfl) (by kernel_rfl)
  have h7 := @run_callFunc_extern Tryz.prog 125 _ (ReflectliteValue.methodAny (ReflectliteValue.valueError "reflectlite.Value.Type" 0) (fun t _ _ _ => ReflectliteType.toType t)) Tryz.func125 (by kernel_rfl) (by kernel_rfl) (by kernel_rfl) (by kernel_rfl)
  have h8 := @run_callFunc_extern Tryz.prog 126 _ (ReflectliteValue.method (ReflectliteValue.valueError "reflectlite.Value.IsNil" 0) ReflectliteValue.isNil) Tryz.func126 (by kernel_rfl) (by kernel_rfl) (by kernel_rfl) (by kernel_rfl)
  have h27 := @run_callFunc_extern Tryz.prog 209 _ (ReflectliteType.abiMethod fun t => do pure (.int .u8 (← Rtype.kind t))) Tryz.func209 (by kernel_rfl) (by kernel_rfl) (by kernel_rfl) (by kernel_rfl)
  have h37 := @run_callFunc_extern Tryz.prog 221 _ (ReflectliteType.method ReflectliteType.elem) Tryz.func221 (by kernel_rfl) (by kernel_rfl) (by kernel_rfl) (by kernel_rfl)
  have h38 := @run_callFunc_extern Tryz.prog 222 _ (ReflectliteType.relation "Implements" ReflectliteType.implements_) Tryz.func222 (by kernel_rfl) (by kernel_rfl) (by kernel_rfl) (by kernel_rfl)
  have h10 := @run_callFunc_extern Tryz.prog 143 _ ReflectliteType.typeOf Tryz.func143 (by kernel_rfl) (by kernel_rfl) (by kernel_rfl) (by kernel_rfl)
  have h35 := @run_callFunc_extern Tryz.prog 219 _ (ReflectliteType.relation "AssignableTo" ReflectliteType.assignableTo) Tryz.func219 (by kernel_rfl) (by kernel_rfl) (by kernel_rfl) (by kernel_rfl)
  have h11 := @run_callFunc_extern Tryz.prog 144 _ (ReflectliteValue.method (ReflectliteValue.valueError "reflectlite.Value.Elem" 0) ReflectliteValue.elem) Tryz.func144 (by kernel_rfl) (by kernel_rfl) (by kernel_rfl) (by kernel_rfl)
  have h12 := @run_callFunc_extern Tryz.prog 145 _ ReflectliteValue.set Tryz.func145 (by kernel_rfl) (by kernel_rfl) (by kernel_rfl) (by kernel_rfl)
  have tO := Er.typeOf25
  have tO2 := At.typeOf
  have mA := Er.methodAssignableTo
  have a25 := Er.assignable25
  have a99 := At.assignable
  have nA := At.noAs
  have nU := At.un
  have mU := At.methodUnwrap
  have v25 := Er.valueOf25
  have f6 := Er.valueOf27
  have f7 := Er.type27
  have mK := Er.methodKind
  have mE := Er.methodElem
  have mI := Er.methodImplements
  have k27 := Er.kind27
  have k25 := Er.kind25
  have e27 := Er.elem27
  have i25 := Er.implements25
  have n8 := Er.isNil27 ⟨w.heap.size, 0, none⟩ t ((w.alloc (.cells #[.pointer (some t)] 148)).alloc (.cells #[.pointer (some ⟨10, 148, none⟩), .pointer (some ⟨w.heap.size, 0, none⟩), .int .u64 150] 187)) (by simp)
  have hlt : 3 < w.heap.size := by
    rcases Nat.lt_or_ge 3 w.heap.size with h | h
    · exact h
    · simp [World.cell?, Array.getElem?_eq_none h] at hg
  have hg2 : ((w.alloc (.cells #[.pointer (some t)] 148)).alloc (.cells #[.pointer (some ⟨10, 148, none⟩), .pointer (some ⟨w.heap.size, 0, none⟩), .int .u64 150] 187)).cell? ⟨3, 0, none⟩ = some (.iface 207 (.agg #[.pointer (some ⟨10, 38, none⟩)])) := by
    rw [World.cell?_alloc_lt _ _ ⟨3, 0, none⟩ (by simp; omega), World.cell?_alloc_lt _ _ ⟨3, 0, none⟩ hlt]; exact hg
  have hpl : p < w.heap.size := by
    rcases Nat.lt_or_ge p w.heap.size with h | h
    · exact h
    · simp [World.cell?, Array.getElem?_eq_none h] at hp0
  have hp3 : (((w.alloc (.cells #[.pointer (some t)] 148)).alloc (.cells #[.pointer (some ⟨10, 148, none⟩), .pointer (some ⟨w.heap.size, 0, none⟩), .int .u64 150] 187)).alloc (.cells #[.pointer (some ⟨10, 148, none⟩), .pointer (some ⟨w.heap.size, 0, none⟩), .int .u64 150] 187)).cell? ⟨p, 0, none⟩ = some (.int .i64 e) := by
    rw [World.cell?_alloc_lt _ _ ⟨p, 0, none⟩ (by simp; omega), World.cell?_alloc_lt _ _ ⟨p, 0, none⟩ (by simp; omega), World.cell?_alloc_lt _ _ ⟨p, 0, none⟩ hpl]; exact hp0
  have htl : t.block < w.heap.size := by
    rcases Nat.lt_or_ge t.block w.heap.size with h | h
    · exact h
    · simp [World.cell?, Array.getElem?_eq_none h] at ht0
  have el := Er.elemV27 ⟨w.heap.size, 0, none⟩ t (((w.alloc (.cells #[.pointer (some t)] 148)).alloc (.cells #[.pointer (some ⟨10, 148, none⟩), .pointer (some ⟨w.heap.size, 0, none⟩), .int .u64 150] 187)).alloc (.cells #[.pointer (some ⟨10, 148, none⟩), .pointer (some ⟨w.heap.size, 0, none⟩), .int .u64 150] 187)) (by rw [World.cell?_alloc_lt _ _ ⟨w.heap.size, 0, none⟩ (by simp; omega)]; simp)
  have st := Er.set25 t ⟨w.heap.size + 1 + 1 + 1, 0, none⟩ e old ((((w.alloc (.cells #[.pointer (some t)] 148)).alloc (.cells #[.pointer (some ⟨10, 148, none⟩), .pointer (some ⟨w.heap.size, 0, none⟩), .int .u64 150] 187)).alloc (.cells #[.pointer (some ⟨10, 148, none⟩), .pointer (some ⟨w.heap.size, 0, none⟩), .int .u64 150] 187)).alloc (.cells #[.int .i64 e] 40))
    (by rw [World.cell?_alloc_at _ _ _ _ (by simp)]; rfl)
    (by rw [World.cell?_alloc_lt _ _ t (by simp; omega), World.cell?_alloc_lt _ _ t (by simp; omega), World.cell?_alloc_lt _ _ t (by simp; omega), World.cell?_alloc_lt _ _ t htl]; exact ht0)
    (by rw [World.frozen?_alloc_old _ _ t (by simp; omega), World.frozen?_alloc_old _ _ t (by simp; omega), World.frozen?_alloc_old _ _ t (by simp; omega), World.frozen?_alloc_old _ _ t (Nat.ne_of_lt htl)]; exact hf0)
  go_enter Tryz.func86, Tryz.ntmps86
  go_wp2
  refine wp_loop_rounds 2 ?_
  rw [rounds_succ]
  go_wp2
  rw [rounds_succ]
  go_wp2
  go_ret
  exact ⟨rfl, rfl⟩

set_option maxHeartbeats 1600000 in
set_option maxRecDepth 100000 in
theorem tell_at (e : Int) (p : Nat) (w : World) (hg : ErrT w) (hp : w.cell? ⟨p, 0, none⟩ = some (.int .i64 e)) : Calls Tryz.prog 61 #[.iface 84 (.pointer (some ⟨p, 0, none⟩))] w fun x w' => x = .returned (.int .i64 e) ∧ Below w.heap.size w w' := by
  have bA : Below w.heap.size w (w.alloc (.cells #[.int .i64 0] 40)) := (Below.refl _ _).alloc (Nat.le_refl _) _
  have hA := (hg.on bA).out
  have cA := as_at_hit e p ⟨w.heap.size, 0, none⟩ (.int .i64 0) (w.alloc (.cells #[.int .i64 0] 40)) hA (by simp) (by simp) (by rw [bA.cell (block_lt_of_cell hp)]; exact hp)
  have HA := Lib.hid cA
  clear cA hA
  go_enter Tryz.func61, Tryz.ntmps61
  go_wp2_with (go_at_call 86; refine HA.out.mono ?_; rintro x w' ⟨rfl, rfl⟩)
  go_ret
  exact ⟨rfl, b5 _ _ _ _ _ _⟩

set_option maxHeartbeats 1600000 in
set_option maxRecDepth 100000 in
theorem place_at (e i : Int) (p : Nat) (w : World) (hg : ErrT w) (hp : w.cell? ⟨p, 0, none⟩ = some (.int .i64 e)) (hq : w.cell? ⟨p, 1, none⟩ = some (.int .i64 i)) : Calls Tryz.prog 28 #[.iface 84 (.pointer (some ⟨p, 0, none⟩))] w fun x w' => x = .returned (.tuple #[.int .i64 e, .int .i64 i]) ∧ Below w.heap.size w w' := by
  have hA := At.at
  go_enter Tryz.func28, Tryz.ntmps28
  go_wp2_with (go_at_call 61; refine (tell_at e p _ hg hp).mono ?_; rintro x w1 ⟨rfl, b1⟩)
  have hq1 : w1.cell? ⟨p, 1, none⟩ = some (.int .i64 i) := by rw [b1.cell (block_lt_of_cell hq)]; exact hq
  refine wp_loop_rounds 1 ?_
  rw [rounds_succ]
  have hq2 : w1.drew.cell? ⟨p, 1, none⟩ = some (.int .i64 i) := hq1
  go_wp2
  go_region
  all_goals go_wp2
  all_goals go_ret2
  all_goals exact ⟨rfl, b1.drew⟩

set_option maxHeartbeats 1600000 in
set_option maxRecDepth 100000 in
theorem is_at (c i : Int) (p : Nat) (w : World) (hg : ErrT w) (hp : w.cell? ⟨p, 0, none⟩ = some (.int .i64 c)) (hq : w.cell? ⟨p, 1, none⟩ = some (.int .i64 i)) : Calls Tryz.prog 8 #[.iface 84 (.pointer (some ⟨p, 0, none⟩)), .agg #[.int .i64 c, .int .i64 i]] w fun x w' => x = .returned (.bool true) ∧ Below w.heap.size w w' := by
  have bA : Below w.heap.size w (w.alloc (.cells #[.int .i64 c, .int .i64 i] 42)) := (Below.refl _ _).alloc (Nat.le_refl _) _
  have hgA := hg.on bA
  have hpA : (w.alloc (.cells #[.int .i64 c, .int .i64 i] 42)).cell? ⟨p, 0, none⟩ = some (.int .i64 c) := by rw [bA.cell (block_lt_of_cell hp)]; exact hp
  have hqA : (w.alloc (.cells #[.int .i64 c, .int .i64 i] 42)).cell? ⟨p, 1, none⟩ = some (.int .i64 i) := by rw [bA.cell (block_lt_of_cell hq)]; exact hq
  go_enter Tryz.func8, Tryz.ntmps8
  go_wp2_with fail
  refine (place_at c i p _ hgA hpA hqA).mono ?_
  rintro x w1 ⟨rfl, b1⟩
  have c0 : w1.cell? ⟨w.heap.size, 0, none⟩ = some (.int .i64 c) := by rw [b1.cell (by simp)]; simp
  have c1 : w1.cell? ⟨w.heap.size, 1, none⟩ = some (.int .i64 i) := by rw [b1.cell (by simp)]; simp
  go_wp2
  go_ret
  exact ⟨rfl, bon bA b1⟩

end Go.Proofs.YthijccmiemlilaaGreatDoor
namespace Go.Proofs.YthijccmiemlilaaGreatDoor
open Go.RowKit Go.Sort

/-- What comes of an event (the row) and a state (the column): -1 of none. -/
def otab : List Int := [0,0,0,0,0,0,0,0, 2,2,2,2,2,2,2,2, -1,-1,3,-1,-1,-1,-1,-1, -1,-1,-1,4,4,-1,-1,-1, -1,-1,-1,-1,7,-1,-1,-1, -1,-1,2,-1,4,-1,4,-1, -1,-1,2,2,2,2,2,2, -1,-1,1,-1,-1,-1,-1,-1, -1,0,0,-1,-1,-1,-1,-1, -1,-1,-1,-1,-1,5,6,6, -1,-1,-1,-1,-1,-1,7,-1]
def oc (k j : Nat) : Int := otab.getD (k * 8 + j) 0
/-- The table of outcomes, as it lies in memory. -/
structure Oc (W : World) : Prop where
  lt : 1 < W.heap.size
  c : ∀ i, i < 88 → W.cell? ⟨1, i, none⟩ = some (.int .i64 (otab.getD i 0))
theorem Oc.on {W w' : World} (h : Oc W) (k : Below W.heap.size W w') : Oc w' :=
  ⟨Nat.lt_of_lt_of_le h.lt k.size, fun i hi => by rw [k.cell (p := ⟨1, i, none⟩) h.lt]; exact h.c i hi⟩
/-- A state and an event that there are. -/
def inr (s e : Int) : Bool := decide (0 ≤ s) && decide (s ≤ 7) && decide (1 ≤ e) && decide (e ≤ 10)
/-- What comes of a state and an event: the state, and the error's number. -/
def nx (s e : Int) : Int × Int := if inr s e then (if oc e.toNat s.toNat = -1 then (0, 6) else (oc e.toNat s.toNat, 0)) else (0, 1)
def erv (c : Int) : Value := if c = 0 then .nilIface else .iface 40 (.int .i64 c)

theorem ret_nx {p q : Int × Int} (h : p = q) : Ending.returned (.tuple #[.int .i64 p.1, erv p.2]) = .returned (.tuple #[.int .i64 q.1, erv q.2]) := by rw [h]
theorem isst_any (n : Int) (w : World) : Calls Tryz.prog 87 #[.int .i64 n] w fun x w' => x = .returned (.bool (decide (0 ≤ n) && decide (n ≤ 7))) ∧ w' = w := by
  go_enter Tryz.func87, Tryz.ntmps87
  go_wp2
  all_goals go_ret
  all_goals exact ⟨ret_bool (by rw [Bool.eq_iff_iff]; simp; omega), rfl⟩
theorem in_any (n lo hi : Int) (w : World) : Calls Tryz.prog 42 #[.int .i64 n, .int .i64 lo, .int .i64 hi] w fun x w' => x = .returned (.bool (decide (lo ≤ n) && decide (n ≤ hi))) ∧ w' = w := by
  go_enter Tryz.func42, Tryz.ntmps42
  go_wp2
  all_goals go_ret
  all_goals exact ⟨ret_bool (by rw [Bool.eq_iff_iff]; simp; omega), rfl⟩
theorem inr_of {j k : Nat} (hk1 : 1 ≤ k) (hk : k ≤ 10) (hj : j ≤ 7) : inr j k = true := by unfold inr; simp; omega
theorem nx_no {j k : Nat} (hk1 : 1 ≤ k) (hk : k ≤ 10) (hj : j ≤ 7) (h : (oc k j == -1) = true) : ((0 : Int), (6 : Int)) = nx j k := by
  unfold nx; rw [if_pos (inr_of hk1 hk hj)]; rw [beq_iff_eq] at h; simp [h]
theorem nx_yes {j k : Nat} (hk1 : 1 ≤ k) (hk : k ≤ 10) (hj : j ≤ 7) (h : (oc k j == -1) = false) : (oc k j, (0 : Int)) = nx j k := by
  unfold nx; rw [if_pos (inr_of hk1 hk hj)]; simp at h; simp [h]

theorem next_in (k j : Nat) (hk1 : 1 ≤ k) (hk : k ≤ 10) (hj : j ≤ 7) (w : World) (h : Oc w) : Calls Tryz.prog 62 #[.int .i64 j, .int .i64 k] w fun x w' => x = .returned (.tuple #[.int .i64 (nx j k).1, erv (nx j k).2]) ∧ w' = w := by
  have hc := h.c (k * 8 + j) (by omega)
  have cS := fun W => isst_any (j : Int) W
  rw [show (decide (0 ≤ (j : Int)) && decide ((j : Int) ≤ 7)) = true by simp; omega] at cS
  obtain ⟨v, hv⟩ : ∃ v, oc k j = v := ⟨_, rfl⟩
  have hw : otab.getD (k * 8 + j) 0 = v := hv
  rw [hw] at hc
  clear hw
  cases hb : v == -1 with
  | true =>
    have HR := Lib.hid (nx_no hk1 hk hj (by rw [hv]; exact hb))
    clear hv h
    go_enter Tryz.func62, Tryz.ntmps62
    go_wp2_with (go_at_call 87; refine (cS _).mono ?_; rintro e w' ⟨rfl, rfl⟩)
    go_ret2
    exact ⟨ret_nx HR.out, rfl⟩
  | false =>
    have HR := Lib.hid ((congrArg (fun z => (z, (0 : Int))) hv).symm.trans (nx_yes hk1 hk hj (by rw [hv]; exact hb)))
    clear hv h
    go_enter Tryz.func62, Tryz.ntmps62
    go_wp2_with (go_at_call 87; refine (cS _).mono ?_; rintro e w' ⟨rfl, rfl⟩)
    go_ret2
    exact ⟨ret_nx HR.out, rfl⟩
theorem nx_out {s e : Int} (h : inr s e = false) : ((0 : Int), (1 : Int)) = nx s e := by unfold nx; rw [h]; rfl
theorem next_out (s e : Int) (h : inr s e = false) (w : World) : Calls Tryz.prog 62 #[.int .i64 s, .int .i64 e] w fun x w' => x = .returned (.tuple #[.int .i64 (nx s e).1, erv (nx s e).2]) ∧ w' = w := by
  have cS := fun W => isst_any s W
  have HR := Lib.hid (nx_out h)
  cases hs : (decide (0 ≤ s) && decide (s ≤ 7)) with
  | true =>
    rw [hs] at cS
    have he : e < 1 ∨ 10 < e := by unfold inr at h; rw [hs] at h; simp at h; omega
    clear h hs
    go_enter Tryz.func62, Tryz.ntmps62
    go_wp2_with (go_at_call 87; refine (cS _).mono ?_; rintro e w' ⟨rfl, rfl⟩)
    all_goals go_ret2
    all_goals exact ⟨ret_nx HR.out, rfl⟩
  | false =>
    rw [hs] at cS
    clear h hs
    go_enter Tryz.func62, Tryz.ntmps62
    go_wp2_with (go_at_call 87; refine (cS _).mono ?_; rintro e w' ⟨rfl, rfl⟩)
    go_ret2
    exact ⟨ret_nx HR.out, rfl⟩
theorem inr_true {s e : Int} (h : inr s e = true) : ∃ j k : Nat, s = j ∧ e = k ∧ 1 ≤ k ∧ k ≤ 10 ∧ j ≤ 7 := by
  unfold inr at h; simp at h; exact ⟨s.toNat, e.toNat, by omega, by omega, by omega, by omega, by omega⟩
theorem next_any (s e : Int) (w : World) (h : Oc w) : Calls Tryz.prog 62 #[.int .i64 s, .int .i64 e] w fun x w' => x = .returned (.tuple #[.int .i64 (nx s e).1, erv (nx s e).2]) ∧ w' = w := by
  cases hr : inr s e with
  | true => obtain ⟨j, k, rfl, rfl, h1, h2, h3⟩ := inr_true hr; exact next_in k j h1 h2 h3 w h
  | false => exact next_out s e hr w
/-- Whether it may be. -/
def mayB (s e : Int) : Bool := (nx s e).2 == 0
theorem may_any (s e : Int) (w : World) (h : Oc w) : Calls Tryz.prog 20 #[.int .i64 s, .int .i64 e] w fun x w' => x = .returned (.bool (mayB s e)) ∧ w' = w := by
  have cN := next_any s e w h
  unfold mayB
  obtain ⟨p, hp⟩ : ∃ p, nx s e = p := ⟨_, rfl⟩
  rw [hp] at cN ⊢
  clear hp
  by_cases h0 : p.2 = 0
  · rw [h0, show erv 0 = .nilIface from rfl] at cN
    rw [show (p.2 == 0) = true by rw [h0]; rfl]
    clear h0 h
    go_enter Tryz.func20, Tryz.ntmps20
    go_wp2_with (go_at_call 62; refine cN.mono ?_; rintro e w' ⟨rfl, rfl⟩)
    go_ret
    exact ⟨rfl, rfl⟩
  · rw [show erv p.2 = .iface 40 (.int .i64 p.2) from if_neg h0] at cN
    rw [show (p.2 == 0) = false from beq_eq_false_iff_ne.2 h0]
    clear h0 h
    go_enter Tryz.func20, Tryz.ntmps20
    go_wp2_with (go_at_call 62; refine cN.mono ?_; rintro e w' ⟨rfl, rfl⟩)
    go_ret
    exact ⟨rfl, rfl⟩

/-- The reference's table. -/
def rrow : Nat → List UInt8
  | 0 => [50, 50, 50, 50, 50, 50, 50, 50]
  | 1 => [45, 45, 51, 45, 45, 45, 45, 45]
  | 2 => [45, 45, 45, 52, 52, 45, 45, 45]
  | 3 => [45, 45, 45, 45, 55, 45, 45, 45]
  | 4 => [45, 45, 50, 45, 52, 45, 52, 45]
  | 5 => [45, 45, 50, 50, 50, 50, 50, 50]
  | 6 => [45, 45, 49, 45, 45, 45, 45, 45]
  | 7 => [45, 48, 48, 45, 45, 45, 45, 45]
  | 8 => [45, 45, 45, 45, 45, 53, 54, 54]
  | _ => [45, 45, 45, 45, 45, 45, 55, 45]
structure Rr (W : World) : Prop where
  lt : 2 < W.heap.size
  c : ∀ i, i < 10 → W.cell? ⟨2, i, none⟩ = some (.string ⟨(rrow i).toArray⟩)
theorem Rr.on {W w' : World} (h : Rr W) (k : Below W.heap.size W w') : Rr w' :=
  ⟨Nat.lt_of_lt_of_le h.lt k.size, fun i hi => by rw [k.cell (p := ⟨2, i, none⟩) h.lt]; exact h.c i hi⟩
theorem rrow_len (k : Nat) : (rrow k).length = 8 := by
  match k with
  | 0 | 1 | 2 | 3 | 4 | 5 | 6 | 7 | 8 | _ + 9 => rfl
theorem rrow_is : ∀ k, k < 10 → ∀ j, j < 8 → (((rrow k).getD j 0).toNat = 45 ∧ oc (k + 1) j = -1) ∨ (((rrow k).getD j 0).toNat ≠ 45 ∧ oc (k + 1) j ≠ -1 ∧ 48 ≤ ((rrow k).getD j 0).toNat ∧ oc (k + 1) j = ((((rrow k).getD j 0).toNat - 48 : Nat) : Int)) := by decide

theorem ret_nx2 {p q : Int × Int} (h : p = q) : Ending.returned (.tuple #[.int .i64 p.1, .int .i64 p.2]) = .returned (.tuple #[.int .i64 q.1, .int .i64 q.2]) := by rw [h]
theorem xnx_no {k j : Nat} {l : List UInt8} (hk : k < 10) (hj : j < 8) (hs : j < (ByteArray.mk l.toArray).size) (hI : ((l.getD j 0).toNat = 45 ∧ oc (k + 1) j = -1) ∨ ((l.getD j 0).toNat ≠ 45 ∧ oc (k + 1) j ≠ -1 ∧ 48 ≤ (l.getD j 0).toNat ∧ oc (k + 1) j = (((l.getD j 0).toNat - 48 : Nat) : Int))) (h : ((((ByteArray.mk l.toArray)[j]'hs).toNat : Int) == 45) = true) : ((0 : Int), (6 : Int)) = nx j ((k : Int) + 1) := by
  have e : l.getD j 0 = (ByteArray.mk l.toArray)[j]'hs := by rw [List.getD_eq_getElem?_getD, List.getElem?_eq_getElem (show j < l.length by simpa [ByteArray.size] using hs)]; rfl
  have h' : (l.getD j 0).toNat = 45 := by rw [e]; simp at h; omega
  exact nx_no (k := k + 1) (by omega) (by omega) (by omega) (by rcases hI with ⟨_, h2⟩ | ⟨h1, _⟩; · rw [h2]; rfl
                                                                · exact absurd h' h1)
theorem xnx_yes {k j : Nat} {l : List UInt8} (hk : k < 10) (hj : j < 8) (hs : j < (ByteArray.mk l.toArray).size) (hI : ((l.getD j 0).toNat = 45 ∧ oc (k + 1) j = -1) ∨ ((l.getD j 0).toNat ≠ 45 ∧ oc (k + 1) j ≠ -1 ∧ 48 ≤ (l.getD j 0).toNat ∧ oc (k + 1) j = (((l.getD j 0).toNat - 48 : Nat) : Int))) (h : ((((ByteArray.mk l.toArray)[j]'hs).toNat : Int) == 45) = false) : (((((ByteArray.mk l.toArray)[j]'hs).toNat : Int) - 48) % 256, (0 : Int)) = nx j ((k : Int) + 1) := by
  have e : l.getD j 0 = (ByteArray.mk l.toArray)[j]'hs := by rw [List.getD_eq_getElem?_getD, List.getElem?_eq_getElem (show j < l.length by simpa [ByteArray.size] using hs)]; rfl
  have hb := ((ByteArray.mk l.toArray)[j]'hs).toNat_lt
  rw [e] at hI
  generalize ((ByteArray.mk l.toArray)[j]'hs).toNat = n at h hI hb ⊢
  have h' : n ≠ 45 := by intro e; subst e; simp at h
  rcases hI with ⟨h1, _⟩ | ⟨_, h2, h3, h4⟩
  · exact absurd h1 h'
  · have := nx_yes (k := k + 1) (j := j) (by omega) (by omega) (by omega) (beq_eq_false_iff_ne.2 h2)
    rw [show ((n : Int) - 48) % 256 = oc (k + 1) j by rw [h4]; omega]
    exact this
theorem xnext_in (k j : Nat) (hk : k < 10) (hj : j < 8) (w : World) (h : Rr w) : Calls Tryz.prog 70 #[.int .i64 j, .int .i64 ((k : Int) + 1)] w fun x w' => x = .returned (.tuple #[.int .i64 (nx j ((k : Int) + 1)).1, .int .i64 (nx j ((k : Int) + 1)).2]) ∧ w' = w := by
  have hc := h.c k hk
  have cS := fun W => in_any (j : Int) 0 7 W
  rw [show (decide (0 ≤ (j : Int)) && decide ((j : Int) ≤ 7)) = true by simp; omega] at cS
  have cE := fun W => in_any ((k : Int) + 1) 1 10 W
  rw [show (decide (1 ≤ (k : Int) + 1) && decide ((k : Int) + 1 ≤ 10)) = true by simp; omega] at cE
  obtain ⟨l, hl⟩ : ∃ l, rrow k = l := ⟨_, rfl⟩
  have h8 := rrow_len k
  have hI := rrow_is k hk j hj
  rw [hl] at h8 hc hI
  have hs : j < (ByteArray.mk l.toArray).size := by show j < l.toArray.size; simp; omega
  have hjl : j < l.length := by omega
  go_enter Tryz.func70, Tryz.ntmps70
  go_wp2_with (go_at_call 42; (first | (with_reducible refine (cS _).mono ?_) | (with_reducible refine (cE _).mono ?_)); rintro e w' ⟨rfl, rfl⟩)
  · rename_i hb
    have HR := Lib.hid (xnx_no hk hj hs hI hb)
    go_ret2
    exact ⟨ret_nx2 HR.out, rfl⟩
  · rename_i hb
    have HR := Lib.hid (xnx_yes hk hj hs hI hb)
    go_ret2
    exact ⟨ret_nx2 HR.out, rfl⟩
theorem xnext_out (s e : Int) (h : inr s e = false) (w : World) : Calls Tryz.prog 70 #[.int .i64 s, .int .i64 e] w fun x w' => x = .returned (.tuple #[.int .i64 (nx s e).1, .int .i64 (nx s e).2]) ∧ w' = w := by
  have cS := fun W => in_any s 0 7 W
  have cE := fun W => in_any e 1 10 W
  have HR := Lib.hid (nx_out h)
  cases hs : (decide (0 ≤ s) && decide (s ≤ 7)) with
  | true =>
    rw [hs] at cS
    rw [show (decide (1 ≤ e) && decide (e ≤ 10)) = false by unfold inr at h; rw [hs] at h; simp at h ⊢; omega] at cE
    clear h hs
    go_enter Tryz.func70, Tryz.ntmps70
    go_wp2_with (go_at_call 42; (first | (with_reducible refine (cS _).mono ?_) | (with_reducible refine (cE _).mono ?_)); rintro e w' ⟨rfl, rfl⟩)
    go_ret2
    exact ⟨ret_nx2 HR.out, rfl⟩
  | false =>
    rw [hs] at cS
    clear h hs
    go_enter Tryz.func70, Tryz.ntmps70
    go_wp2_with (go_at_call 42; refine (cS _).mono ?_; rintro e w' ⟨rfl, rfl⟩)
    go_ret2
    exact ⟨ret_nx2 HR.out, rfl⟩
theorem xnext_any (s e : Int) (w : World) (h : Rr w) : Calls Tryz.prog 70 #[.int .i64 s, .int .i64 e] w fun x w' => x = .returned (.tuple #[.int .i64 (nx s e).1, .int .i64 (nx s e).2]) ∧ w' = w := by
  cases hr : inr s e with
  | true =>
    obtain ⟨j, k, rfl, rfl, h1, h2, h3⟩ := inr_true hr
    obtain ⟨k, rfl⟩ : ∃ k', k = k' + 1 := ⟨k - 1, by omega⟩
    exact xnext_in k j (by omega) (by omega) w h
  | false => exact xnext_out s e hr w
theorem xmay_any (s e : Int) (w : World) (h : Rr w) : Calls Tryz.prog 43 #[.int .i64 s, .int .i64 e] w fun x w' => x = .returned (.bool (mayB s e)) ∧ w' = w := by
  have cN := xnext_any s e w h
  unfold mayB
  obtain ⟨p, hp⟩ : ∃ p, nx s e = p := ⟨_, rfl⟩
  rw [hp] at cN ⊢
  clear hp h
  go_enter Tryz.func43, Tryz.ntmps43
  go_wp2_with (go_at_call 70; refine cN.mono ?_; rintro e w' ⟨rfl, rfl⟩)
  go_ret
  exact ⟨rfl, rfl⟩
end Go.Proofs.YthijccmiemlilaaGreatDoor
