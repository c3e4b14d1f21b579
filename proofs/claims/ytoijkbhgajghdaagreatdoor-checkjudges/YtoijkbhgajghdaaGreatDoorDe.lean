/- The walks of Meets, either side. -/
import Derived.Test.YtoijkbhgajghdaaGreatDoorDd
namespace Go.Proofs.YtoijkbhgajghdaaGreatDoor
open Go.RowKit Go.Sort

/-- Does a package of that name and version, that provides these, meet the term? -/
def mt (n : List UInt8) (e : Int) (u r : List UInt8) (P : List Tm) (t : Tm) : Bool := (n == t.n && Vm.iv (Vm.cv e u r t.e t.u t.r) t.o) || P.any (nv t)
/-- An offer as a value. -/
abbrev ofv (n : List UInt8) (e : Int) (u r : List UInt8) (v : Value) : Value := .agg #[.string ⟨n.toArray⟩, .int .i64 e, .string ⟨u.toArray⟩, .string ⟨r.toArray⟩, v]

set_option maxHeartbeats 1600000 in
set_option maxRecDepth 100000 in
theorem meets_any (n : List UInt8) (e : Int) (u r : List UInt8) (v : Value) (P : List Tm) (t : Tm) (w : World) (hv : Ts w v P) (hP : ∀ p ∈ P, Sh p) (hn : P.length ≤ 40) (ht : Sh t) (hu : u.length ≤ 100) (hr : r.length ≤ 100) :
    Calls Tryz.prog 66 #[ofv n e u r v, tv t] w fun x w' => x = .returned (.bool (mt n e u r P t)) ∧ Below w.heap.size w w' := by
  have cI := fun W => is_b e u r t.o t.e t.u t.r W (by omega) (by omega) (by have := ht.u; omega) (by have := ht.r; omega)
  obtain ⟨q, hq⟩ : ∃ q, q = Vm.iv (Vm.cv e u r t.e t.u t.r) t.o := ⟨_, rfl⟩
  have b1 := b1c w (.cells #[.string ⟨n.toArray⟩, .int .i64 e, .string ⟨u.toArray⟩, .string ⟨r.toArray⟩, v] 65)
  have b2 := b2c w (.cells #[.string ⟨n.toArray⟩, .int .i64 e, .string ⟨u.toArray⟩, .string ⟨r.toArray⟩, v] 65) (.cells #[.string ⟨t.n.toArray⟩, .int .i64 t.o, .int .i64 t.e, .string ⟨t.u.toArray⟩, .string ⟨t.r.toArray⟩] 112)
  have hT := tc_new (w.alloc (.cells #[.string ⟨n.toArray⟩, .int .i64 e, .string ⟨u.toArray⟩, .string ⟨r.toArray⟩, v] 65)) t
  have hsz : (w.alloc (.cells #[.string ⟨n.toArray⟩, .int .i64 e, .string ⟨u.toArray⟩, .string ⟨r.toArray⟩, v] 65)).heap.size = w.heap.size + 1 := by show (w.heap.push _).size = _; rw [Array.size_push]
  rw [hsz] at hT
  have cC : ∀ W, Below w.heap.size w W → Tc W (w.heap.size + 1) t → Calls Tryz.prog 67 #[v, .func (Fn.func 90) #[] #[.pointer (some ⟨w.heap.size + 1, 0, none⟩)]] W fun e w' => e = .returned (.bool (P.any (nv t))) ∧ Below W.heap.size W w' := fun W hW hc =>
    con67_any v (w.heap.size + 1) P (nv t) W (hv.on hW) (by omega) (fun i hi W' hW' => clo67 P[i] t _ W' (hc.on hW') (hP _ (List.getElem_mem hi)) ht)
  unfold mt
  generalize P.any (nv t) = z at cC ⊢
  rw [← hq] at cI ⊢
  have HC := Lib.hid cC
  have HT := Lib.hid hT
  clear hq cC hT hv hP hn ht hu hr b1
  cases q1 : (n == t.n) with
  | false =>
    go_enter Tryz.func66, Tryz.ntmps66
    go_wp2_with fail
    refine (HC.out _ b2 HT.out).mono ?_
    rintro x w1 ⟨rfl, bw⟩
    go_wp2_with fail
    go_ret
    exact ⟨retb (by simp), bon b2 bw⟩
  | true =>
    cases q with
    | true =>
      go_enter Tryz.func66, Tryz.ntmps66
      go_wp2_with fail
      refine (cI _).mono ?_
      rintro x w1 ⟨rfl, bw⟩
      go_wp2_with fail
      go_ret
      exact ⟨retb (by simp), bon b2 bw⟩
    | false =>
      go_enter Tryz.func66, Tryz.ntmps66
      go_wp2_with fail
      refine (cI _).mono ?_
      rintro x w1 ⟨rfl, bw⟩
      have hb := bon b2 bw
      have HT1 := Lib.hid (HT.out.on bw)
      have k4 : w1.cell? ⟨w.heap.size, 4, none⟩ = some v := by rw [bw.cell (by simp; omega)]; simp
      clear HT
      go_wp2_with fail
      refine (HC.out _ hb HT1.out).mono ?_
      rintro x w2 ⟨rfl, bw2⟩
      go_wp2_with fail
      go_ret
      exact ⟨retb (by simp), bon hb bw2⟩
end Go.Proofs.YtoijkbhgajghdaaGreatDoor
