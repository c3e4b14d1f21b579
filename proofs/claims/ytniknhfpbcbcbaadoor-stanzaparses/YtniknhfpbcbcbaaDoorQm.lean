/- errors.As, api.Tell, plain.Place and the law's is, at an error with a place (*api.At). -/
import Derived.Test.YtniknhfpbcbcbaaDoorSq
namespace Go.Proofs.YtniknhfpbcbcbaaDoor
open Go.RowKit Go.Shelf Go.Sort Go.Extern.Stop Go.Stop Go.Extern

theorem At.typeOf (v : Value) (w : World) : (ReflectliteType.typeOf #[.iface 99 v]).run Tryd.prog w = .ok (.iface 168 (.agg #[.pointer (some ⟨8, 99, none⟩)])) w := by kernel_rfl
theorem At.assignable (w : World) : (ReflectliteType.relation "AssignableTo" ReflectliteType.assignableTo #[.agg #[.pointer (some ⟨8, 99, none⟩)], .iface 168 (.agg #[.pointer (some ⟨8, 25, none⟩)])]).run Tryd.prog w = .ok (.bool false) w := by kernel_rfl
theorem At.noAs (v : Value) (xT : TypeId) (w : World) : (Instr.typeAssert (.iface 99 v) xT 173 true).run Tryd.prog w = .ok (.tuple #[.nilIface, .bool false]) w := run_typeAssert_lacksB Tryd.underlying173 (by kernel_rfl) (by kernel_rfl) v xT w
theorem At.un (v : Value) (xT : TypeId) (w : World) : (Instr.typeAssert (.iface 99 v) xT 122 true).run Tryd.prog w = .ok (.tuple #[.iface 99 v, .bool true]) w := run_typeAssert_hasB Tryd.underlying122 (by kernel_rfl) v xT w
theorem At.at (v : Value) (w : World) : (Instr.typeAssert (.iface 99 v) 29 99 true).run Tryd.prog w = .ok (.tuple #[v, .bool true]) w := by kernel_rfl
theorem At.methodUnwrap (h : Value) (w : World) : (Go.method 313 99 h "Unwrap").run Tryd.prog w = .ok (185, h) w := by kernel_rfl

set_option maxHeartbeats 8000000 in
set_option maxRecDepth 100000 in
theorem as_at_hit (e : Int) (p : Nat) (t : Addr) (old : Value) (w : World) (hg : w.cell? ⟨2, 0, none⟩ = some (.iface 168 (.agg #[.pointer (some ⟨8, 29, none⟩)]))) (ht0 : w.cell? t = some old) (hf0 : w.frozen? t = false) (hp0 : w.cell? ⟨p, 0, none⟩ = some (.int .i64 e)) :
    Calls Tryd.prog 133 #[.iface 99 (.pointer (some ⟨p, 0, none⟩)), .iface 141 (.pointer (some t))] w fun ev w' => ev = .returned (.bool true) ∧ w' = ((((w.alloc (.cells #[.pointer (some t)] 141)).alloc (.cells #[.pointer (some ⟨8, 141, none⟩), .pointer (some ⟨w.heap.size, 0, none⟩), .int .u64 150] 153)).alloc (.cells #[.pointer (some ⟨8, 141, none⟩), .pointer (some ⟨w.heap.size, 0, none⟩), .int .u64 150] 153)).alloc (.cells #[.int .i64 e] 25)).setCell t (.int .i64 e) := by
  have h6 := @run_callFunc_extern Tryd.prog 147 _ (fun args => ReflectliteValue.unpack (args.getD 0 (.tuple #[]))) Tryd.func147 (by kernel_rfl) (by kernel_rfl) (by kernel_rfl) (by kernel_rfl)
  have h7 := @run_callFunc_extern Tryd.prog 148 _ (ReflectliteValue.methodAny (ReflectliteValue.valueError "reflectlite.Value.Type" 0) (fun t _ _ _ => ReflectliteType.toType t)) Tryd.func148 (by kernel_rfl) (by kernel_rfl) (by kernel_rfl) (by kernel_rfl)
  have h8 := @run_callFunc_extern Tryd.prog 149 _ (ReflectliteValue.method (ReflectliteValue.valueError "reflectlite.Value.IsNil" 0) ReflectliteValue.isNil) Tryd.func149 (by kernel_rfl) (by kernel_rfl) (by kernel_rfl) (by kernel_rfl)
  have h27 := @run_callFunc_extern Tryd.prog 179 _ (ReflectliteType.abiMethod fun t => do pure (.int .u8 (← Rtype.kind t))) Tryd.func179 (by kernel_rfl) (by kernel_rfl) (by kernel_rfl) (by kernel_rfl)
  have h37 := @run_callFunc_extern Tryd.prog 192 _ (ReflectliteType.method ReflectliteType.elem) Tryd.func192 (by kernel_rfl) (by kernel_rfl) (by kernel_rfl) (by kernel_rfl)
  have h38 := @run_callFunc_extern Tryd.prog 193 _ (ReflectliteType.relation "Implements" ReflectliteType.implements_) Tryd.func193 (by kernel_rfl) (by kernel_rfl) (by kernel_rfl) (by kernel_rfl)
  have h10 := @run_callFunc_extern Tryd.prog 159 _ ReflectliteType.typeOf Tryd.func159 (by kernel_rfl) (by kernel_rfl) (by kernel_rfl) (by kernel_rfl)
  have h35 := @run_callFunc_extern Tryd.prog 190 _ (ReflectliteType.relation "AssignableTo" ReflectliteType.assignableTo) Tryd.func190 (by kernel_rfl) (by kernel_rfl) (by kernel_rfl) (by kernel_rfl)
  have h11 := @run_callFunc_extern Tryd.prog 160 _ (ReflectliteValue.method (ReflectliteValue.valueError "reflectlite.Value.Elem" 0) ReflectliteValue.elem) Tryd.func160 (by kernel_rfl) (by kernel_rfl) (by kernel_rfl) (by kernel_rfl)
  have h12 := @run_callFunc_extern Tryd.prog 161 _ ReflectliteValue.set Tryd.func161 (by kernel_rfl) (by kernel_rfl) (by kernel_rfl) (by kernel_rfl)
  have tO := Er.typeOf25
  have tO2 := At.typeOf
  have mA := Er.methodAssignableTo
  have a25 := Er.assignable25
  have a99 := At.assignable
  have nA := At.noAs
  have nU := At.un
  have mU := At.methodUnwrap
  have v25 := Er.valueOf25
  have f6 := Er.valueOf27
  have f7 := Er.type27
  have mK := Er.methodKind
  have mE := Er.methodElem
  have mI := Er.methodImplements
  have k27 := Er.kind27
  have k25 := Er.kind25
  have e27 := Er.elem27
  have i25 := Er.implements25
  have n8 := Er.isNil27 ⟨w.heap.size, 0, none⟩ t ((w.alloc (.cells #[.pointer (some t)] 141)).alloc (.cells #[.pointer (some ⟨8, 141, none⟩), .pointer (some ⟨w.heap.size, 0, none⟩), .int .u64 150] 153)) (by simp)
  have hlt : 2 < w.heap.size := by
    rcases Nat.lt_or_ge 2 w.heap.size with h | h
    · exact h
    · simp [World.cell?, Array.getElem?_eq_none h] at hg
  have hg2 : ((w.alloc (.cells #[.pointer (some t)] 141)).alloc (.cells #[.pointer (some ⟨8, 141, none⟩), .pointer (some ⟨w.heap.size, 0, none⟩), .int .u64 150] 153)).cell? ⟨2, 0, none⟩ = some (.iface 168 (.agg #[.pointer (some ⟨8, 29, none⟩)])) := by
    rw [World.cell?_alloc_lt _ _ ⟨2, 0, none⟩ (by simp; omega), World.cell?_alloc_lt _ _ ⟨2, 0, none⟩ hlt]; exact hg
  have hpl : p < w.heap.size := by
    rcases Nat.lt_or_ge p w.heap.size with h | h
    · exact h
    · simp [World.cell?, Array.getElem?_eq_none h] at hp0
  have hp3 : (((w.alloc (.cells #[.pointer (some t)] 141)).alloc (.cells #[.pointer (some ⟨8, 141, none⟩), .pointer (some ⟨w.heap.size, 0, none⟩), .int .u64 150] 153)).alloc (.cells #[.pointer (some ⟨8, 141, none⟩), .pointer (some ⟨w.heap.size, 0, none⟩), .int .u64 150] 153)).cell? ⟨p, 0, none⟩ = some (.int .i64 e) := by
    rw [World.cell?_alloc_lt _ _ ⟨p, 0, none⟩ (by simp; omega), World.cell?_alloc_lt _ _ ⟨p, 0, none⟩ (by simp; omega), World.cell?_alloc_lt _ _ ⟨p, 0, none⟩ hpl]; exact hp0
  have htl : t.block < w.heap.size := by
    rcases Nat.lt_or_ge t.block w.heap.size with h | h
    · exact h
    · simp [World.cell?, Array.getElem?_eq_none h] at ht0
  have el := Er.elemV27 ⟨w.heap.size, 0, none⟩ t (((w.alloc (.cells #[.pointer (some t)] 141)).alloc (.cells #[.pointer (some ⟨8, 141, none⟩), .pointer (some ⟨w.heap.size, 0, none⟩), .int .u64 150] 153)).alloc (.cells #[.pointer (some ⟨8, 141, none⟩), .pointer (some ⟨w.heap.size, 0, none⟩), .int .u64 150] 153)) (by rw [World.cell?_alloc_lt _ _ ⟨w.heap.size, 0, none⟩ (by simp; omega)]; simp)
  have st := Er.set25 t ⟨w.heap.size + 1 + 1 + 1, 0, none⟩ e old ((((w.alloc (.cells #[.pointer (some t)] 141)).alloc (.cells #[.pointer (some ⟨8, 141, none⟩), .pointer (some ⟨w.heap.size, 0, none⟩), .int .u64 150] 153)).alloc (.cells #[.pointer (some ⟨8, 141, none⟩), .pointer (some ⟨w.heap.size, 0, none⟩), .int .u64 150] 153)).alloc (.cells #[.int .i64 e] 25))
    (by rw [World.cell?_alloc_at _ _ _ _ (by simp)]; rfl)
    (by rw [World.cell?_alloc_lt _ _ t (by simp; omega), World.cell?_alloc_lt _ _ t (by simp; omega), World.cell?_alloc_lt _ _ t (by simp; omega), World.cell?_alloc_lt _ _ t htl]; exact ht0)
    (by rw [World.frozen?_alloc_old _ _ t (by simp; omega), World.frozen?_alloc_old _ _ t (by simp; omega), World.frozen?_alloc_old _ _ t (by simp; omega), World.frozen?_alloc_old _ _ t (Nat.ne_of_lt htl)]; exact hf0)
  go_enter Tryd.func133, Tryd.ntmps133
  go_wp2
  refine wp_loop_rounds 2 ?_
  rw [rounds_succ]
  go_wp2
  rw [rounds_succ]
  go_wp2
  go_ret
  exact ⟨rfl, rfl⟩

set_option maxHeartbeats 1600000 in
set_option maxRecDepth 100000 in
theorem tell_at (e : Int) (p : Nat) (w : World) (hg : ErrT w) (hp : w.cell? ⟨p, 0, none⟩ = some (.int .i64 e)) : Calls Tryd.prog 110 #[.iface 99 (.pointer (some ⟨p, 0, none⟩))] w fun x w' => x = .returned (.int .i64 e) ∧ Below w.heap.size w w' := by
  have bA : Below w.heap.size w (w.alloc (.cells #[.int .i64 0] 25)) := (Below.refl _ _).alloc (Nat.le_refl _) _
  have hA := (hg.on bA).out
  have cA := as_at_hit e p ⟨w.heap.size, 0, none⟩ (.int .i64 0) (w.alloc (.cells #[.int .i64 0] 25)) hA (by simp) (by simp) (by rw [bA.cell (block_lt_of_cell hp)]; exact hp)
  have HA := Lib.hid cA
  clear cA hA
  go_enter Tryd.func110, Tryd.ntmps110
  go_wp2_with (go_at_call 133; refine HA.out.mono ?_; rintro x w' ⟨rfl, rfl⟩)
  go_ret
  exact ⟨rfl, b5 _ _ _ _ _ _⟩

set_option maxHeartbeats 1600000 in
set_option maxRecDepth 100000 in
theorem place_at (e i : Int) (p : Nat) (w : World) (hg : ErrT w) (hp : w.cell? ⟨p, 0, none⟩ = some (.int .i64 e)) (hq : w.cell? ⟨p, 1, none⟩ = some (.int .i64 i)) : Calls Tryd.prog 78 #[.iface 99 (.pointer (some ⟨p, 0, none⟩))] w fun x w' => x = .returned (.tuple #[.int .i64 e, .int .i64 i]) ∧ Below w.heap.size w w' := by
  have hA := At.at
  go_enter Tryd.func78, Tryd.ntmps78
  go_wp2_with (go_at_call 110; refine (tell_at e p _ hg hp).mono ?_; rintro x w1 ⟨rfl, b1⟩)
  have hq1 : w1.cell? ⟨p, 1, none⟩ = some (.int .i64 i) := by rw [b1.cell (block_lt_of_cell hq)]; exact hq
  refine wp_loop_rounds 1 ?_
  rw [rounds_succ]
  have hq2 : w1.drew.cell? ⟨p, 1, none⟩ = some (.int .i64 i) := hq1
  go_wp2
  go_region
  all_goals go_wp2
  all_goals go_ret2
  all_goals exact ⟨rfl, b1.drew⟩

set_option maxHeartbeats 1600000 in
set_option maxRecDepth 100000 in
theorem is_at (c i : Int) (p : Nat) (w : World) (hg : ErrT w) (hp : w.cell? ⟨p, 0, none⟩ = some (.int .i64 c)) (hq : w.cell? ⟨p, 1, none⟩ = some (.int .i64 i)) : Calls Tryd.prog 40 #[.iface 99 (.pointer (some ⟨p, 0, none⟩)), .agg #[.int .i64 c, .int .i64 i]] w fun x w' => x = .returned (.bool true) ∧ Below w.heap.size w w' := by
  have bA : Below w.heap.size w (w.alloc (.cells #[.int .i64 c, .int .i64 i] 59)) := (Below.refl _ _).alloc (Nat.le_refl _) _
  have hgA := hg.on bA
  have hpA : (w.alloc (.cells #[.int .i64 c, .int .i64 i] 59)).cell? ⟨p, 0, none⟩ = some (.int .i64 c) := by rw [bA.cell (block_lt_of_cell hp)]; exact hp
  have hqA : (w.alloc (.cells #[.int .i64 c, .int .i64 i] 59)).cell? ⟨p, 1, none⟩ = some (.int .i64 i) := by rw [bA.cell (block_lt_of_cell hq)]; exact hq
  go_enter Tryd.func40, Tryd.ntmps40
  go_wp2_with fail
  refine (place_at c i p _ hgA hpA hqA).mono ?_
  rintro x w1 ⟨rfl, b1⟩
  have c0 : w1.cell? ⟨w.heap.size, 0, none⟩ = some (.int .i64 c) := by rw [b1.cell (by simp)]; simp
  have c1 : w1.cell? ⟨w.heap.size, 1, none⟩ = some (.int .i64 i) := by rw [b1.cell (by simp)]; simp
  go_wp2
  go_ret
  exact ⟨rfl, onn bA b1⟩

theorem same_nil (A A' : Option Addr) (c c' : Nat) (w : World) : Calls Tryd.prog 41 #[.slice A 0 c, .slice A' 0 c'] w fun x w' => x = .returned (.bool true) ∧ w' = w := by
  go_enter Tryd.func41, Tryd.ntmps41
  go_wp2
  refine wp_loop_rounds 1 ?_
  rw [rounds_succ]
  go_wp2
  go_ret
  exact ⟨rfl, rfl⟩

set_option maxHeartbeats 1600000 in
set_option maxRecDepth 100000 in
theorem same_row (b o c b' o' c' : Nat) (l : List Sm.F) (w : World) (h : Fl w b o l) (h' : Fl w b' o' l) (hn : l.length ≤ 1000000) : Calls Tryd.prog 41 #[.slice (some ⟨b, o, none⟩) l.length c, .slice (some ⟨b', o', none⟩) l.length c'] w fun x w' => x = .returned (.bool true) ∧ Below w.heap.size w w' := by
  have HF := Lib.hid h
  have HG := Lib.hid h'
  clear h h'
  go_enter Tryd.func41, Tryd.ntmps41
  go_wp2
  go_loopw [5] (fun i W => ∃ k : Nat, k ≤ l.length ∧ i = .int .i64 k ∧ Below w.heap.size w W) (fun i _ => l.length - (intOf i).toNat)
  case atStart => exact ⟨0, Nat.zero_le _, rfl, Below.refl _ _⟩
  case round =>
    obtain ⟨k, hk, rfl, hW⟩ := hrel
    by_cases hlt : k < l.length
    · have hD := hW.drew
      have c0 := (HF.out.on hD).c0 k hlt
      have c1 := (HF.out.on hD).c1 k hlt
      have d0 := (HG.out.on hD).c0 k hlt
      have d1 := (HG.out.on hD).c1 k hlt
      go_wp2
      go_region
      all_goals go_wp2
      all_goals exact ⟨⟨k + 1, hlt, by go_num, hD⟩, by simp [intOf]; omega⟩
    · go_wp2
      go_ret
      exact ⟨rfl, hW⟩
theorem same_any (v v' : Value) (l : List Sm.F) (w : World) (h : Sl w v l) (h' : Sl w v' l) (hn : l.length ≤ 1000000) : Calls Tryd.prog 41 #[v, v'] w fun x w' => x = .returned (.bool true) ∧ Below w.heap.size w w' := by
  have nil := fun A A' c c' => (same_nil A A' c c' w).mono fun x w' ⟨h1, h2⟩ => show x = Ending.returned (.bool true) ∧ Below w.heap.size w w' from ⟨h1, by rw [h2]; exact Below.refl _ _⟩
  rcases h.is with ⟨rfl, A, c, rfl⟩ | ⟨b, o, c, rfl, _, hf⟩
  · rcases h'.is with ⟨_, A', c', rfl⟩ | ⟨b', o', c', rfl, _, _⟩
    · exact nil A A' c c'
    · exact nil A _ c c'
  · rcases h'.is with ⟨rfl, A', c', rfl⟩ | ⟨b', o', c', rfl, _, hf'⟩
    · exact nil _ A' c c'
    · exact same_row b o c b' o' c' l w hf hf' hn
end Go.Proofs.YtniknhfpbcbcbaaDoor
