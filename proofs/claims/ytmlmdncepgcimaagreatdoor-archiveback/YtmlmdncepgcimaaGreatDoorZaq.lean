/- The walks of api.Tell, plain.Place, and of the law's is, bare: at no error, and at an Errno. -/
import Derived.Test.YtmlmdncepgcimaaGreatDoorEr
import Derived.Test.YtmlmdncepgcimaaGreatDoorUe
import Derived.Test.YtmlmdncepgcimaaGreatDoorZak
import Derived.Shelf.Strings.Builder1
import Derived.Shelf.Strings.Trim
import Derived.Shelf.Small.Utf8
import Derived.Shelf.Small.Strs
import Derived.Shelf.Small.Wraps
import Derived.Shelf.Strings.BuilderF
import Derived.Shelf.Strings.BuilderK
import Derived.Shelf.Strconv.Itoa0
import Derived.Shelf.Strconv.Itoa1
import Derived.Shelf.LaysM
import Derived.Shelf.Strconv.Itoa2
import Derived.Shelf.Strconv.Itoa3
import Derived.Shelf.Strconv.Clone
import Derived.Shelf.Strings.Search1
import Derived.Shelf.Strings.Search2
import Derived.Shelf.Strings.Search3
import Derived.Shelf.Strings.Cut
import Derived.Shelf.Strings.Count
import Derived.Shelf.Strings.Shaped
import Derived.Shelf.Strings.LastIndex
import Derived.Shelf.Strconv.AppendUint10
import Derived.Shelf.Strconv.AppendInt10
import Derived.Shelf.Strconv.AppendIntPublic10
import Derived.Shelf.Strings.Prefix
import Derived.Shelf.Strings.Split
import Derived.Shelf.Strings.SplitShaped
import Derived.Shelf.Unicode.Decode
import Derived.Shelf.Strings.Runes
import Derived.Shelf.Strings.AsciiSet
import Derived.Shelf.Unicode.DecodeSlow
import Derived.Shelf.Unicode.DecodeAny
import Derived.Shelf.Unicode.DecodeLast
import Derived.Shelf.Slices.Turned
import Derived.Ground.PaProg
import Derived.Shelf.Path.Small
import Derived.Test.YtmlmdncepgcimaaGreatDoorProg
import Derived.Test.YtmlmdncepgcimaaGreatDoorZad
namespace Go.Proofs.YtmlmdncepgcimaaGreatDoor
open Go.RowKit Go.Shelf Go.Sort

/-- What errors.errorType holds. -/
structure ErrT (w : World) : Prop where
  out : w.cell? ⟨1, 0, none⟩ = some (.iface 216 (.agg #[.pointer (some ⟨11, 36, none⟩)]))
theorem ErrT.on {w w' : World} (h : ErrT w) (b : Below w.heap.size w w') : ErrT w' := ⟨by rw [b.cell (block_lt_of_cell h.out)]; exact h.out⟩

theorem tell_nil (w : World) : Calls Tryz.prog 24 #[.nilIface] w fun e w' => e = .returned (.int .i64 0) ∧ w' = w := by
  go_enter Tryz.func24, Tryz.ntmps24
  go_wp2
  go_ret
  exact ⟨rfl, rfl⟩

theorem b5 (w : World) (A B C D E : Obj) : Below w.heap.size w (((((w.alloc A).alloc B).alloc C).alloc D).alloc E) :=
  ((((((Below.refl _ _).alloc (Nat.le_refl _) _).alloc (by simp) _).alloc (by simp; omega) _).alloc (by simp; omega) _).alloc (by simp; omega) _)

set_option maxHeartbeats 1600000 in
set_option maxRecDepth 100000 in
theorem tell_errno (e : Int) (w : World) (hg : ErrT w) : Calls Tryz.prog 24 #[.iface 32 (.int .i64 e)] w fun x w' => x = .returned (.int .i64 e) ∧ Below w.heap.size w w' := by
  have bA : Below w.heap.size w (w.alloc (.cells #[.int .i64 0] 32)) := (Below.refl _ _).alloc (Nat.le_refl _) _
  have hA := (hg.on bA).out
  have cA := as_hit e ⟨w.heap.size, 0, none⟩ (.int .i64 0) (w.alloc (.cells #[.int .i64 0] 32)) hA (by simp) (by simp)
  have HA := Lib.hid cA
  clear cA hA
  go_enter Tryz.func24, Tryz.ntmps24
  go_wp2_with (go_at_call 92; refine HA.out.mono ?_; rintro x w' ⟨rfl, rfl⟩)
  go_ret
  exact ⟨rfl, b5 _ _ _ _ _ _⟩

set_option maxHeartbeats 1600000 in
set_option maxRecDepth 100000 in
theorem place_nil (w : World) : Calls Tryz.prog 121 #[.nilIface] w fun x w' => x = .returned (.tuple #[.int .i64 0, .int .i64 (-1)]) ∧ w' = w := by
  go_enter Tryz.func121, Tryz.ntmps121
  go_wp2_with (go_at_call 24; refine (tell_nil _).mono ?_; rintro x w' ⟨rfl, rfl⟩)
  refine wp_loop_rounds 1 ?_
  rw [rounds_succ]
  go_wp2
  go_ret2
  exact ⟨rfl, rfl⟩

theorem as_at (e : Int) (w : World) : (Instr.typeAssert (.iface 32 (.int .i64 e)) 36 171 true).run Tryz.prog w = .ok (.tuple #[.pointer none, .bool false]) w := by kernel_rfl
theorem as_un (e : Int) (w : World) : (Instr.typeAssert (.iface 32 (.int .i64 e)) 36 194 true).run Tryz.prog w = .ok (.tuple #[.nilIface, .bool false]) w := run_typeAssert_lacksB Tryz.underlying194 (by kernel_rfl) (by kernel_rfl) _ _ w

set_option maxHeartbeats 1600000 in
set_option maxRecDepth 100000 in
theorem place_errno (e : Int) (w : World) (hg : ErrT w) : Calls Tryz.prog 121 #[.iface 32 (.int .i64 e)] w fun x w' => x = .returned (.tuple #[.int .i64 e, .int .i64 (-1)]) ∧ Below w.heap.size w w' := by
  have hA := as_at e
  have hU := as_un e
  go_enter Tryz.func121, Tryz.ntmps121
  go_wp2_with (go_at_call 24; refine (tell_errno e _ hg).mono ?_; rintro x w1 ⟨rfl, b1⟩)
  refine wp_loop_rounds 1 ?_
  rw [rounds_succ]
  go_wp2
  go_ret2
  exact ⟨rfl, b1⟩

theorem bareF_any (e : Int) (w : World) : Calls Tryz.prog 51 #[.int .i64 e] w fun x w' => x = .returned (.agg #[.int .i64 e, .int .i64 (-1)]) ∧ Below w.heap.size w w' := by
  go_enter Tryz.func51, Tryz.ntmps51
  go_wp2
  exact bodyPost_ret (v := .agg #[.int .i64 e, .int .i64 (-1)]) (by simp [results, Tryz.results51, go_sem]) rfl ⟨rfl, (Below.refl _ _).alloc (Nat.le_refl _) _⟩

set_option maxHeartbeats 1600000 in
set_option maxRecDepth 100000 in
theorem is_nil (w : World) : Calls Tryz.prog 50 #[.nilIface, .agg #[.int .i64 0, .int .i64 (-1)]] w fun x w' => x = .returned (.bool true) ∧ Below w.heap.size w w' := by
  go_enter Tryz.func50, Tryz.ntmps50
  go_wp2_with (go_at_call 121; refine (place_nil _).mono ?_; rintro x w' ⟨rfl, rfl⟩)
  go_ret
  exact ⟨rfl, (Below.refl _ _).alloc (Nat.le_refl _) _⟩

set_option maxHeartbeats 1600000 in
set_option maxRecDepth 100000 in
theorem is_errno (c : Int) (w : World) (hg : ErrT w) : Calls Tryz.prog 50 #[.iface 32 (.int .i64 c), .agg #[.int .i64 c, .int .i64 (-1)]] w fun x w' => x = .returned (.bool true) ∧ Below w.heap.size w w' := by
  have bA : Below w.heap.size w (w.alloc (.cells #[.int .i64 c, .int .i64 (-1)] 79)) := (Below.refl _ _).alloc (Nat.le_refl _) _
  have hgA := hg.on bA
  go_enter Tryz.func50, Tryz.ntmps50
  go_wp2_with fail
  refine (place_errno c _ hgA).mono ?_
  rintro x w1 ⟨rfl, b1⟩
  have c0 : w1.cell? ⟨w.heap.size, 0, none⟩ = some (.int .i64 c) := by rw [b1.cell (by simp)]; simp
  have c1 : w1.cell? ⟨w.heap.size, 1, none⟩ = some (.int .i64 (-1)) := by rw [b1.cell (by simp)]; simp
  go_wp2
  go_ret
  exact ⟨rfl, bt2 bA b1⟩

theorem bare_nil (w : World) : Calls Tryz.prog 12 #[.nilIface, .int .i64 0] w fun x w' => x = .returned (.bool true) ∧ Below w.heap.size w w' := by
  go_enter Tryz.func12, Tryz.ntmps12
  go_wp2_with fail
  refine (bareF_any 0 _).mono ?_
  rintro x w1 ⟨rfl, b1⟩
  go_wp2_with fail
  refine (is_nil _).mono ?_
  rintro x w2 ⟨rfl, b2⟩
  go_wp2
  go_ret
  exact ⟨rfl, bt2 b1 b2⟩
theorem bare_errno (c : Int) (w : World) (hg : ErrT w) : Calls Tryz.prog 12 #[.iface 32 (.int .i64 c), .int .i64 c] w fun x w' => x = .returned (.bool true) ∧ Below w.heap.size w w' := by
  go_enter Tryz.func12, Tryz.ntmps12
  go_wp2_with fail
  refine (bareF_any c _).mono ?_
  rintro x w1 ⟨rfl, b1⟩
  go_wp2_with fail
  refine (is_errno c _ (hg.on b1)).mono ?_
  rintro x w2 ⟨rfl, b2⟩
  go_wp2
  go_ret
  exact ⟨rfl, bt2 b1 b2⟩

end Go.Proofs.YtmlmdncepgcimaaGreatDoor

/- The walk of the reference's Right. -/
namespace Go.Proofs.YtmlmdncepgcimaaGreatDoor
open Go.RowKit Go.Shelf Go.Sort

/-- What the reference asks, in its order. -/
theorem rt_ref (e : Int) (u r : List UInt8) : Vm.rt e u r = (inB e && (Vm.hd u && (u.all (Vm.ok1 (Vm.us e r)) && (r.all (Vm.ok1 Vm.sgn) && decide ((Vm.pt e u r).length ≤ 40))))) := by
  have h1 : u.length ≤ (Vm.pt e u r).length := by unfold Vm.pt; simp; omega
  have h2 : r.length ≤ (Vm.pt e u r).length := by
    unfold Vm.pt Vm.pr; split
    · simp_all
    · simp; omega
  have h3 : Vm.ft e u r = decide ((Vm.pt e u r).length ≤ 40) := by
    unfold Vm.ft
    by_cases h : (Vm.pt e u r).length ≤ 40
    · simp [h]; omega
    · simp [h]
  unfold Vm.rt inB
  rw [h3]
  cases decide (0 ≤ e) <;> cases decide (e < 1000000000) <;> cases decide ((Vm.pt e u r).length ≤ 40) <;> cases Vm.hd u <;> cases u.all (Vm.ok1 (Vm.us e r)) <;> cases r.all (Vm.ok1 Vm.sgn) <;> rfl

theorem us_text (e : Int) (r : List UInt8) : ((if 0 < e then (if r = [] then ByteArray.mk #[46, 43, 126] ++ ByteArray.mk #[58] else ByteArray.mk #[46, 43, 126] ++ ByteArray.mk #[58] ++ ByteArray.mk #[45]) else (if r = [] then ByteArray.mk #[46, 43, 126] else ByteArray.mk #[46, 43, 126] ++ ByteArray.mk #[45])) : ByteArray) = ⟨(Vm.us e r).toArray⟩ := by
  unfold Vm.us Vm.sgn
  split <;> split <;> rfl

theorem ba_hdx (c : UInt8) (l : List UInt8) (h : 0 < (ByteArray.mk (c :: l).toArray).size) : (ByteArray.mk (c :: l).toArray)[0]'h = c := rfl
theorem b_andf (b : Bool) : (b && false) = false := by cases b <;> rfl

attribute [local go_sem] ba_hdx in
set_option maxHeartbeats 3200000 in
set_option maxRecDepth 100000 in
theorem xright_cons (e : Int) (c : UInt8) (t r : List UInt8) (w : World) (b1 : Bool) (hin : ∀ W, Calls Tryz.prog 66 #[.int .i64 e, .int .i64 0, .int .i64 999999999] W fun x w' => x = .returned (.bool b1) ∧ w' = W)
    (m : List UInt8) (hm : m = Vm.us e r) (hu : (c :: t).length ≤ 200) (hr : r.length ≤ 200)
    (pl : List UInt8) (hp : ∀ o, Calls Tryz.prog 39 #[.agg #[.int .i64 e, .string ⟨(c :: t).toArray⟩, .string ⟨r.toArray⟩]] (w.alloc o) fun x w' => x = .returned (.string ⟨pl.toArray⟩) ∧ Below (w.alloc o).heap.size (w.alloc o) w') :
    Calls Tryz.prog 60 #[.agg #[.int .i64 e, .string ⟨(c :: t).toArray⟩, .string ⟨r.toArray⟩]] w fun x w' => x = .returned (.bool (b1 && (Vm.dg c && ((c :: t).all (Vm.ok1 m) && (r.all (Vm.ok1 Vm.sgn) && decide (pl.length ≤ 40)))))) ∧ Below w.heap.size w w' := by
  have hb : ∀ o, Below w.heap.size w (w.alloc o) := fun o => (Below.refl _ _).alloc (Nat.le_refl _) _
  obtain ⟨b2, hb2⟩ : ∃ b, b = Vm.dg c := ⟨_, rfl⟩
  obtain ⟨b3, hb3⟩ : ∃ b, b = (c :: t).all (Vm.ok1 m) := ⟨_, rfl⟩
  obtain ⟨b4, hb4⟩ : ∃ b, b = r.all (Vm.ok1 Vm.sgn) := ⟨_, rfl⟩
  have cD : ∀ W, Calls Tryz.prog 67 #[.int .u8 c.toNat] W fun x w' => x = .returned (.bool b2) ∧ w' = W := fun W => by rw [hb2]; exact xdigit_any c W
  have cU : ∀ W, Calls Tryz.prog 133 #[.string ⟨(c :: t).toArray⟩, .string ⟨m.toArray⟩] W fun x w' => x = .returned (.bool b3) ∧ w' = W := fun W => by rw [hb3]; exact xall_any _ _ W hu
  have cR : ∀ W, Calls Tryz.prog 133 #[.string ⟨r.toArray⟩, .string ⟨#[46, 43, 126]⟩] W fun x w' => x = .returned (.bool b4) ∧ w' = W := fun W => by rw [hb4]; exact xall_any r Vm.sgn W hr
  rw [← hb2, ← hb3, ← hb4]
  clear hb2 hb3 hb4
  have hmt := us_text e r
  rw [← hm] at hmt
  clear hm
  have HP := Lib.hid hp
  clear hp
  by_cases he : 0 < e
  · by_cases hr0 : r = []
    · subst hr0
      rw [if_pos he, if_pos rfl] at hmt
      go_enter Tryz.func60, Tryz.ntmps60
      go_wp2_with (first | (go_at_call 66; refine (hin _).mono ?_; rintro x w' ⟨rfl, rfl⟩) | (go_at_call 67; refine (cD _).mono ?_; rintro x w' ⟨rfl, rfl⟩) | (go_at_call 133; with_reducible refine (cU _).mono ?_; rintro x w' ⟨rfl, rfl⟩) | (go_at_call 133; with_reducible refine (cR _).mono ?_; rintro x w' ⟨rfl, rfl⟩) | (go_at_call 39; refine (HP.out _).mono ?_; rintro x w' ⟨rfl, hbw⟩))
      all_goals go_ret
      all_goals first
        | (refine ⟨ret_bool ?_, hb _⟩; simp_all; done)
        | (refine ⟨ret_bool ?_, (hb _).trans (hbw.mono (by simp))⟩; rw [Bool.eq_iff_iff]; simp_all; omega)
    · have hre : r.isEmpty = false := by cases r with
        | nil => exact absurd rfl hr0
        | cons c r => rfl
      rw [if_pos he, if_neg hr0] at hmt
      go_enter Tryz.func60, Tryz.ntmps60
      go_wp2_with (first | (go_at_call 66; refine (hin _).mono ?_; rintro x w' ⟨rfl, rfl⟩) | (go_at_call 67; refine (cD _).mono ?_; rintro x w' ⟨rfl, rfl⟩) | (go_at_call 133; with_reducible refine (cU _).mono ?_; rintro x w' ⟨rfl, rfl⟩) | (go_at_call 133; with_reducible refine (cR _).mono ?_; rintro x w' ⟨rfl, rfl⟩) | (go_at_call 39; refine (HP.out _).mono ?_; rintro x w' ⟨rfl, hbw⟩))
      all_goals go_ret
      all_goals first
        | (refine ⟨ret_bool ?_, hb _⟩; simp_all; done)
        | (refine ⟨ret_bool ?_, (hb _).trans (hbw.mono (by simp))⟩; rw [Bool.eq_iff_iff]; simp_all; omega)
  · by_cases hr0 : r = []
    · subst hr0
      rw [if_neg he, if_pos rfl] at hmt
      have cU' : ∀ W, Calls Tryz.prog 133 #[.string ⟨(c :: t).toArray⟩, .string ⟨#[46, 43, 126]⟩] W fun x w' => x = .returned (.bool b3) ∧ w' = W := fun W => by rw [hmt]; exact cU W
      clear cU hmt
      go_enter Tryz.func60, Tryz.ntmps60
      go_wp2_with (first | (go_at_call 66; refine (hin _).mono ?_; rintro x w' ⟨rfl, rfl⟩) | (go_at_call 67; refine (cD _).mono ?_; rintro x w' ⟨rfl, rfl⟩) | (go_at_call 133; with_reducible refine (cU' _).mono ?_; rintro x w' ⟨rfl, rfl⟩) | (go_at_call 133; with_reducible refine (cR _).mono ?_; rintro x w' ⟨rfl, rfl⟩) | (go_at_call 39; refine (HP.out _).mono ?_; rintro x w' ⟨rfl, hbw⟩))
      all_goals go_ret
      all_goals first
        | (refine ⟨ret_bool ?_, hb _⟩; simp_all; done)
        | (refine ⟨ret_bool ?_, (hb _).trans (hbw.mono (by simp))⟩; rw [Bool.eq_iff_iff]; simp_all; omega)
    · have hre : r.isEmpty = false := by cases r with
        | nil => exact absurd rfl hr0
        | cons c r => rfl
      rw [if_neg he, if_neg hr0] at hmt
      go_enter Tryz.func60, Tryz.ntmps60
      go_wp2_with (first | (go_at_call 66; refine (hin _).mono ?_; rintro x w' ⟨rfl, rfl⟩) | (go_at_call 67; refine (cD _).mono ?_; rintro x w' ⟨rfl, rfl⟩) | (go_at_call 133; with_reducible refine (cU _).mono ?_; rintro x w' ⟨rfl, rfl⟩) | (go_at_call 133; with_reducible refine (cR _).mono ?_; rintro x w' ⟨rfl, rfl⟩) | (go_at_call 39; refine (HP.out _).mono ?_; rintro x w' ⟨rfl, hbw⟩))
      all_goals go_ret
      all_goals first
        | (refine ⟨ret_bool ?_, hb _⟩; simp_all; done)
        | (refine ⟨ret_bool ?_, (hb _).trans (hbw.mono (by simp))⟩; rw [Bool.eq_iff_iff]; simp_all; omega)

attribute [local go_sem] ba_hdx in
set_option maxHeartbeats 1600000 in
set_option maxRecDepth 100000 in
theorem xright_nil (e : Int) (r : List UInt8) (w : World) (b1 : Bool) (hin : ∀ W, Calls Tryz.prog 66 #[.int .i64 e, .int .i64 0, .int .i64 999999999] W fun x w' => x = .returned (.bool b1) ∧ w' = W) :
    Calls Tryz.prog 60 #[.agg #[.int .i64 e, .string ⟨([] : List UInt8).toArray⟩, .string ⟨r.toArray⟩]] w fun x w' => x = .returned (.bool false) ∧ Below w.heap.size w w' := by
  have hb : ∀ o, Below w.heap.size w (w.alloc o) := fun o => (Below.refl _ _).alloc (Nat.le_refl _) _
  by_cases he : 0 < e
  all_goals
    by_cases hr0 : r = []
    · subst hr0
      go_enter Tryz.func60, Tryz.ntmps60
      go_wp2_with (go_at_call 66; refine (hin _).mono ?_; rintro x w' ⟨rfl, rfl⟩)
      all_goals go_ret
      all_goals exact ⟨rfl, hb _⟩
    · have hre : r.isEmpty = false := by cases r with
        | nil => exact absurd rfl hr0
        | cons c r => rfl
      go_enter Tryz.func60, Tryz.ntmps60
      go_wp2_with (go_at_call 66; refine (hin _).mono ?_; rintro x w' ⟨rfl, rfl⟩)
      all_goals go_ret
      all_goals exact ⟨rfl, hb _⟩

theorem xright_any (e : Int) (u r : List UInt8) (w : World) (h0 : -9223372036854775808 ≤ e) (h1 : e ≤ 9223372036854775807) (hu : u.length ≤ 200) (hr : r.length ≤ 200) (htab : Lib.TabIs Tryz.prog w "internal/strconv.uint64pow10" .u64 Lib.pow10Tab) :
    Calls Tryz.prog 60 #[.agg #[.int .i64 e, .string ⟨u.toArray⟩, .string ⟨r.toArray⟩]] w fun x w' => x = .returned (.bool (Vm.rt e u r)) ∧ Below w.heap.size w w' := by
  have hb : ∀ o, Below w.heap.size w (w.alloc o) := fun o => (Below.refl _ _).alloc (Nat.le_refl _) _
  have hT := Lib.tabBelow_of_tabIs htab
  cases u with
  | nil =>
    rw [show Vm.rt e [] r = false from rt_hd rfl]
    exact xright_nil e r w (inB e) (xin_any e)
  | cons c t =>
    rw [rt_ref]
    exact xright_cons e c t r w (inB e) (xin_any e) _ rfl hu hr _ (fun o => xprint_any e (c :: t) r _ h0 h1 hu hr (hT _ (hb o)))

end Go.Proofs.YtmlmdncepgcimaaGreatDoor

/- The walks of the reference's in, signOf, PackName. -/
namespace Go.Proofs.YtmlmdncepgcimaaGreatDoor
open Go.RowKit Go.Shelf Go.Sort

theorem xin3_any (n lo hi : Int) (w : World) : Calls Tryz.prog 66 #[.int .i64 n, .int .i64 lo, .int .i64 hi] w fun x w' => x = .returned (.bool (decide (lo ≤ n) && decide (n ≤ hi))) ∧ w' = w := by
  go_enter Tryz.func66, Tryz.ntmps66
  go_wp2
  all_goals go_ret
  all_goals exact ⟨ret_bool (by rw [Bool.eq_iff_iff]; simp; omega), rfl⟩

def sgArr : Array Value := #[.string ⟨#[]⟩, .string ⟨#[60, 60]⟩, .string ⟨#[60, 61]⟩, .string ⟨#[61]⟩, .string ⟨#[62, 61]⟩, .string ⟨#[62, 62]⟩]
theorem sg_ix1 (w : World) : (Instr.index 190 (.agg sgArr) (.int .i64 1)).run Tryz.prog w = .ok (.string ⟨#[60, 60]⟩) w := by kernel_rfl
theorem sg_ix2 (w : World) : (Instr.index 190 (.agg sgArr) (.int .i64 2)).run Tryz.prog w = .ok (.string ⟨#[60, 61]⟩) w := by kernel_rfl
theorem sg_ix3 (w : World) : (Instr.index 190 (.agg sgArr) (.int .i64 3)).run Tryz.prog w = .ok (.string ⟨#[61]⟩) w := by kernel_rfl
theorem sg_ix4 (w : World) : (Instr.index 190 (.agg sgArr) (.int .i64 4)).run Tryz.prog w = .ok (.string ⟨#[62, 61]⟩) w := by kernel_rfl
theorem sg_ix5 (w : World) : (Instr.index 190 (.agg sgArr) (.int .i64 5)).run Tryz.prog w = .ok (.string ⟨#[62, 62]⟩) w := by kernel_rfl

set_option maxHeartbeats 800000 in
set_option maxRecDepth 100000 in
/-- The sign of a number. -/
theorem xsign_any (k : Nat) (hk : 0 < k) (h6 : k < 6) (w : World) : Calls Tryz.prog 112 #[.int .i64 k] w fun x w' => x = .returned (.string ⟨(sgt k).toArray⟩) ∧ w' = w := by
  have hc : k = 1 ∨ k = 2 ∨ k = 3 ∨ k = 4 ∨ k = 5 := by omega
  have i1 := sg_ix1 w
  have i2 := sg_ix2 w
  have i3 := sg_ix3 w
  have i4 := sg_ix4 w
  have i5 := sg_ix5 w
  unfold sgArr at i1 i2 i3 i4 i5
  rcases hc with rfl | rfl | rfl | rfl | rfl
  all_goals
    go_enter Tryz.func112, Tryz.ntmps112
    go_wp2
    try (first | rw [i1] | rw [i2] | rw [i3] | rw [i4] | rw [i5])
    try go_wp2
    go_ret
    exact ⟨rfl, rfl⟩

set_option maxHeartbeats 800000 in
set_option maxRecDepth 100000 in
/-- A package's name, as the reference has it. -/
theorem xname_any (l : List UInt8) (w : World) (hl : l.length ≤ 1000) : Calls Tryz.prog 59 #[.string ⟨l.toArray⟩] w fun x w' => x = .returned (.bool (nmo l)) ∧ w' = w := by
  obtain ⟨r, hr⟩ : ∃ r, r = nmo l := ⟨_, rfl⟩
  have HY : Hid ((∀ j (hj : j < l.length), (if j = 0 then pby l[j] else nby l[j]) = true) → (decide ((2 : Int) ≤ l.length) && decide ((l.length : Int) ≤ 24)) = r) := fun h' => by
    rw [hr]
    unfold nmo
    cases l with
    | nil => rfl
    | cons c t =>
      have h0 := h' 0 (by simp)
      simp at h0
      have ha : (c :: t).all nby = true := by
        rw [List.all_eq_true]
        intro x hx
        obtain ⟨j, hj, rfl⟩ := List.getElem_of_mem hx
        have := h' j hj
        by_cases e : j = 0
        · subst e; simp; exact nby_p h0
        · rw [if_neg e] at this; exact this
      rw [ha, Bool.eq_iff_iff]
      simp [h0]
      omega
  have HN : Hid (∀ k (hk : k < l.length), (if k = 0 then pby l[k] else nby l[k]) = false → r = false) := fun k hk h' => by
    rw [hr]
    unfold nmo
    cases l with
    | nil => simp at hk
    | cons c t =>
      by_cases e : k = 0
      · subst e; simp at h'; simp [h']
      · rw [if_neg e] at h'
        have : (c :: t).all nby = false := by
          rw [List.all_eq_false]
          exact ⟨_, List.getElem_mem hk, by rw [h']; simp⟩
        rw [this]; simp
  rw [← hr]
  clear hr
  go_enter Tryz.func59, Tryz.ntmps59
  go_wp2
  go_loop [7] (fun i => ∃ k : Nat, k ≤ l.length ∧ i = .int .i64 k ∧ Hid (∀ j (hj : j < l.length), j < k → (if j = 0 then pby l[j] else nby l[j]) = true)) (fun i => l.length - (intOf i).toNat)
  case atStart => exact ⟨0, Nat.zero_le _, rfl, fun j _ h => absurd h (Nat.not_lt_zero _)⟩
  case round =>
    obtain ⟨k, hk, rfl, HP⟩ := hrel
    by_cases hlt : k < l.length
    · have HM : Hid ((if k = 0 then pby l[k] else nby l[k]) = true → ∀ j (hj : j < l.length), j < k + 1 → (if j = 0 then pby l[j] else nby l[j]) = true) := fun hc j hj h => by
        by_cases e : j = k
        · subst e; exact hc
        · exact HP.out j hj (by omega)
      have HN' := Lib.hid (HN.out k hlt)
      clear HN HY HP
      obtain ⟨x, hx⟩ : ∃ x, x = l[k] := ⟨_, rfl⟩
      have hbx : ∀ (h : k < (ByteArray.mk l.toArray).size), (ByteArray.mk l.toArray)[k]'h = x := fun h => hx.symm
      rw [← hx] at HM HN'
      clear hx
      go_wp2_with (go_at_call 67; refine (xdigit_any _ _).mono ?_; rintro e w' ⟨rfl, rfl⟩)
      all_goals first
        | (go_ret
           refine ⟨ret_bool (HN'.out ?_).symm, rfl⟩
           clear HM HN' hbx
           try simp only [Vm.dg_iff, beq_iff_eq, bne_iff_ne, Bool.not_eq_eq_eq_not, Bool.not_true, decide_eq_false_iff_not, ne_eq] at *
           split <;> simp [pby, nby] <;> omega)
        | (refine ⟨⟨k + 1, hlt, by go_num, HM.out ?_⟩, by simp [intOf]; omega⟩
           clear HM HN' hbx
           try simp only [Vm.dg_iff, beq_eq_false_iff_ne, bne_eq_false_iff_eq, Bool.not_eq_eq_eq_not, Bool.not_false, decide_eq_true_eq, ne_eq] at *
           split <;> simp [pby, nby] <;> omega)
    · go_wp2_with (go_at_call 66; refine (xin3_any _ _ _ _).mono ?_; rintro e w' ⟨rfl, rfl⟩)
      go_ret
      exact ⟨ret_bool (HY.out (fun j hj => HP.out j hj (by omega))), rfl⟩
end Go.Proofs.YtmlmdncepgcimaaGreatDoor

/- Contracts of Go's library at this program's numbers, as the laying command prints them (those that are used). -/
namespace Go.Proofs
open Go.Shelf
def Tryz.lays144_ren : Go.Shelf.Ren := ⟨fun | 144 => 64 | 143 => 107 | 219 => 159 | 217 => 202 | 225 => 203 | 224 => 204 | 267 => 205 | 266 => 220 | 314 => 221 | n => n, fun | 9 => 9 | 4 => 4 | 3 => 3 | 5 => 5 | 46 => 142 | 146 => 242 | 51 => 241 | n => n, fun | 1 => 2 | n => n⟩
theorem Tryz.lays144 : Go.Proofs.Lays.n144 Tryz.prog Tryz.lays144_ren := {
  mixed := by kernel_rfl
  f143 := Tryz.func107.trans (congrArg some (by kernel_rfl))
  f144 := Tryz.func64.trans (congrArg some (by kernel_rfl))
  f217 := Tryz.func202.trans (congrArg some (by kernel_rfl))
  f219 := Tryz.func159.trans (congrArg some (by kernel_rfl))
  f224 := Tryz.func204.trans (congrArg some (by kernel_rfl))
  f225 := Tryz.func203.trans (congrArg some (by kernel_rfl))
  f266 := Tryz.func220.trans (congrArg some (by kernel_rfl))
  f267 := Tryz.func205.trans (congrArg some (by kernel_rfl))
  f314 := Tryz.func221.trans (congrArg some (by kernel_rfl))
  t3 := Tryz.underlying3
  a3 := Tryz.isAgg3
  z3 := Tryz.sizeOf3
  v3 := Tryz.zeroValue3
  t4 := Tryz.underlying4
  a4 := Tryz.isAgg4
  z4 := Tryz.sizeOf4
  v4 := Tryz.zeroValue4
  t5 := Tryz.underlying5
  a5 := Tryz.isAgg5
  z5 := Tryz.sizeOf5
  v5 := Tryz.zeroValue5
  t9 := Tryz.underlying9
  a9 := Tryz.isAgg9
  z9 := Tryz.sizeOf9
  v9 := Tryz.zeroValue9
  t46 := Tryz.underlying142
  a46 := Tryz.isAgg142
  z46 := Tryz.sizeOf142
  v46 := Tryz.zeroValue142
  t51 := Tryz.underlying241
  a51 := Tryz.isAgg241
  z51 := Tryz.sizeOf241
  v51 := Tryz.zeroValue241
  t146 := Tryz.underlying242
  a146 := Tryz.isAgg242
  z146 := Tryz.sizeOf242
  v146 := Tryz.zeroValue242
  g1 := by kernel_rfl }
open Go.RowKit Go.Lib in
/-- strings.Contains: "Contains reports whether substr is within s.": AT A substr OF ONE BYTE c: IT RETURNS 'decide (0 ≤ Lib.indexByte s c)'; the world is as it was. (LAID: no walk: one application.) -/
theorem Tryz.strings_Contains_one (s : ByteArray) (c : UInt8) (w : World) :
    Calls Tryz.prog 64 #[.string s, .string ⟨#[c]⟩] w fun e w' => e = .returned (.bool (decide (0 ≤ Lib.indexByte s.data.toList c))) ∧ w' = w := Any.strings_Contains_one Tryz.lays144 s c w
open Go.RowKit Go.Lib in
/-- strings.Contains: "Contains reports whether substr is within s.": IT RETURNS 'Lib.contains s substr'; the world is as it was. (LAID: no walk: one application.) -/
theorem Tryz.strings_Contains (s sub : ByteArray) (m : Int) (w : World) (hs : s.size < 4294967281) (hm : w.cell? ⟨2, 0, none⟩ = some (.int .i64 m)) :
    Calls Tryz.prog 64 #[.string s, .string sub] w fun e w' => e = .returned (.bool (Lib.contains s.data.toList sub.data.toList)) ∧ w' = w := Any.strings_Contains Tryz.lays144 s sub m w hs hm
def Tryz.laysM144_ren : Go.Shelf.Ren := ⟨fun | 144 => 64 | 143 => 107 | 219 => 159 | 217 => 202 | 225 => 203 | 224 => 204 | 267 => 205 | 266 => 220 | 314 => 221 | n => n, fun | 9 => 9 | 4 => 4 | 3 => 3 | 5 => 5 | 46 => 142 | 146 => 242 | 51 => 241 | n => n, fun | 1 => 2 | n => n⟩
theorem Tryz.laysM144 : Go.Proofs.LaysM.n144 Tryz.prog Tryz.laysM144_ren := {
  mixed := by kernel_rfl
  f143 := Tryz.func107.trans (congrArg some (by kernel_rfl))
  f144 := Tryz.func64.trans (congrArg some (by kernel_rfl))
  f217 := Tryz.func202.trans (congrArg some (by kernel_rfl))
  f219 := Tryz.func159.trans (congrArg some (by kernel_rfl))
  f224 := Tryz.func204.trans (congrArg some (by kernel_rfl))
  f225 := Tryz.func203.trans (congrArg some (by kernel_rfl))
  f266 := Tryz.func220.trans (congrArg some (by kernel_rfl))
  f267 := Tryz.func205.trans (congrArg some (by kernel_rfl))
  f314 := Tryz.func221.trans (congrArg some (by kernel_rfl))
  t3 := Tryz.underlying3
  a3 := Tryz.isAgg3
  z3 := Tryz.sizeOf3
  v3 := Tryz.zeroValue3
  t4 := Tryz.underlying4
  a4 := Tryz.isAgg4
  z4 := Tryz.sizeOf4
  v4 := Tryz.zeroValue4
  t5 := Tryz.underlying5
  a5 := Tryz.isAgg5
  z5 := Tryz.sizeOf5
  v5 := Tryz.zeroValue5
  t9 := Tryz.underlying9
  a9 := Tryz.isAgg9
  z9 := Tryz.sizeOf9
  v9 := Tryz.zeroValue9
  t46 := Tryz.underlying142
  a46 := Tryz.isAgg142
  z46 := Tryz.sizeOf142
  v46 := Tryz.zeroValue142
  t51 := Tryz.underlying241
  a51 := Tryz.isAgg241
  z51 := Tryz.sizeOf241
  v51 := Tryz.zeroValue241
  t146 := Tryz.underlying242
  a146 := Tryz.isAgg242
  z146 := Tryz.sizeOf242
  v146 := Tryz.zeroValue242
  g1 := by kernel_rfl
  i3 := by kernel_rfl
  i4 := by kernel_rfl
  i5 := by kernel_rfl
  i9 := by kernel_rfl
  i46 := by kernel_rfl
  i51 := by kernel_rfl
  i146 := by kernel_rfl
  m1 := by kernel_rfl
  s1_3 := fun w h => Go.Proofs.cell_of_shapedOpen_int (zero := #[.int .i64 0]) (t := 3) h (of_decide_eq_true (by kernel_rfl)) (by kernel_rfl) rfl (by kernel_rfl) (by kernel_rfl) Tryz.underlying3 }
open Go.RowKit Go.Lib in
theorem Tryz.strings_Contains_shaped (s sub : ByteArray) (w : World) (h : w.ShapedOpen Tryz.prog) (hs : s.size < 4294967281) :
    Calls Tryz.prog 64 #[.string s, .string sub] w fun e w' => e = .returned (.bool (Lib.contains s.data.toList sub.data.toList)) ∧ w' = w := Any.strings_Contains_shaped Tryz.laysM144 s sub w h hs
def Tryz.lays99_ren : Go.Shelf.Ren := ⟨fun | 99 => 106 | 206 => 158 | n => n, fun | 9 => 9 | 4 => 4 | 3 => 3 | n => n, fun | n => n⟩
theorem Tryz.lays99 : Go.Proofs.Lays.n99 Tryz.prog Tryz.lays99_ren := {
  mixed := by kernel_rfl
  f99 := Tryz.func106.trans (congrArg some (by kernel_rfl))
  f206 := Tryz.func158.trans (congrArg some (by kernel_rfl))
  t3 := Tryz.underlying3
  a3 := Tryz.isAgg3
  z3 := Tryz.sizeOf3
  v3 := Tryz.zeroValue3
  t4 := Tryz.underlying4
  a4 := Tryz.isAgg4
  z4 := Tryz.sizeOf4
  v4 := Tryz.zeroValue4
  t9 := Tryz.underlying9
  a9 := Tryz.isAgg9
  z9 := Tryz.sizeOf9
  v9 := Tryz.zeroValue9 }
open Go.RowKit Go.Lib in
/-- strings.HasPrefix: "HasPrefix reports whether the string s begins with prefix.": IT RETURNS 'Lib.hasPrefix s prefix'; the world is as it was. (LAID: no walk: one application.) -/
theorem Tryz.strings_HasPrefix (s p : ByteArray) (w : World) :
    Calls Tryz.prog 106 #[.string s, .string p] w fun e w' => e = .returned (.bool (Lib.hasPrefix s.data.toList p.data.toList)) ∧ w' = w := Any.strings_HasPrefix Tryz.lays99 s p w
def Tryz.lays100_ren : Go.Shelf.Ren := ⟨fun | 100 => 65 | 207 => 134 | n => n, fun | 9 => 9 | 4 => 4 | 3 => 3 | n => n, fun | n => n⟩
theorem Tryz.lays100 : Go.Proofs.Lays.n100 Tryz.prog Tryz.lays100_ren := {
  mixed := by kernel_rfl
  f100 := Tryz.func65.trans (congrArg some (by kernel_rfl))
  f207 := Tryz.func134.trans (congrArg some (by kernel_rfl))
  t3 := Tryz.underlying3
  a3 := Tryz.isAgg3
  z3 := Tryz.sizeOf3
  v3 := Tryz.zeroValue3
  t4 := Tryz.underlying4
  a4 := Tryz.isAgg4
  z4 := Tryz.sizeOf4
  v4 := Tryz.zeroValue4
  t9 := Tryz.underlying9
  a9 := Tryz.isAgg9
  z9 := Tryz.sizeOf9
  v9 := Tryz.zeroValue9 }
open Go.RowKit Go.Lib in
/-- strings.HasSuffix: "HasSuffix reports whether the string s ends with suffix.": IT RETURNS 'Lib.hasSuffix s suffix'; the world is as it was. ('hs': no Go string is longer: a caller has it of every string that it was handed.) (LAID: no walk: one application.) -/
theorem Tryz.strings_HasSuffix (s p : ByteArray) (w : World) (hs : s.size ≤ 9223372036854775807) :
    Calls Tryz.prog 65 #[.string s, .string p] w fun e w' => e = .returned (.bool (Lib.hasSuffix s.data.toList p.data.toList)) ∧ w' = w := Any.strings_HasSuffix Tryz.lays100 s p w hs
def Tryz.lays146_ren : Go.Shelf.Ren := ⟨fun | 146 => 74 | 221 => 137 | 268 => 175 | 138 => 176 | 143 => 107 | 195 => 209 | 197 => 210 | 218 => 211 | 219 => 159 | 260 => 223 | 217 => 202 | 225 => 203 | 224 => 204 | 267 => 205 | 266 => 220 | 314 => 221 | n => n, fun | 9 => 9 | 31 => 26 | 3 => 3 | 4 => 4 | 0 => 0 | 105 => 233 | 21 => 21 | 5 => 5 | 46 => 142 | 119 => 251 | 139 => 254 | 138 => 253 | 146 => 242 | 51 => 241 | n => n, fun | 1 => 2 | 3 => 5 | 4 => 6 | n => n⟩
theorem Tryz.lays146 : Go.Proofs.Lays.n146 Tryz.prog Tryz.lays146_ren := {
  mixed := by kernel_rfl
  f138 := Tryz.func176.trans (congrArg some (by kernel_rfl))
  f143 := Tryz.func107.trans (congrArg some (by kernel_rfl))
  f146 := Tryz.func74.trans (congrArg some (by kernel_rfl))
  f195 := Tryz.func209.trans (congrArg some (by kernel_rfl))
  f197 := Tryz.func210.trans (congrArg some (by kernel_rfl))
  f217 := Tryz.func202.trans (congrArg some (by kernel_rfl))
  f218 := Tryz.func211.trans (congrArg some (by kernel_rfl))
  f219 := Tryz.func159.trans (congrArg some (by kernel_rfl))
  f221 := Tryz.func137.trans (congrArg some (by kernel_rfl))
  f224 := Tryz.func204.trans (congrArg some (by kernel_rfl))
  f225 := Tryz.func203.trans (congrArg some (by kernel_rfl))
  f260 := Tryz.func223.trans (congrArg some (by kernel_rfl))
  f266 := Tryz.func220.trans (congrArg some (by kernel_rfl))
  f267 := Tryz.func205.trans (congrArg some (by kernel_rfl))
  f268 := Tryz.func175.trans (congrArg some (by kernel_rfl))
  f314 := Tryz.func221.trans (congrArg some (by kernel_rfl))
  t0 := Tryz.underlying0
  a0 := Tryz.isAgg0
  z0 := Tryz.sizeOf0
  v0 := Tryz.zeroValue0
  t3 := Tryz.underlying3
  a3 := Tryz.isAgg3
  z3 := Tryz.sizeOf3
  v3 := Tryz.zeroValue3
  t4 := Tryz.underlying4
  a4 := Tryz.isAgg4
  z4 := Tryz.sizeOf4
  v4 := Tryz.zeroValue4
  t5 := Tryz.underlying5
  a5 := Tryz.isAgg5
  z5 := Tryz.sizeOf5
  v5 := Tryz.zeroValue5
  t9 := Tryz.underlying9
  a9 := Tryz.isAgg9
  z9 := Tryz.sizeOf9
  v9 := Tryz.zeroValue9
  t21 := Tryz.underlying21
  a21 := Tryz.isAgg21
  z21 := Tryz.sizeOf21
  v21 := Tryz.zeroValue21
  t31 := Tryz.underlying26
  a31 := Tryz.isAgg26
  z31 := Tryz.sizeOf26
  v31 := Tryz.zeroValue26
  t46 := Tryz.underlying142
  a46 := Tryz.isAgg142
  z46 := Tryz.sizeOf142
  v46 := Tryz.zeroValue142
  t51 := Tryz.underlying241
  a51 := Tryz.isAgg241
  z51 := Tryz.sizeOf241
  v51 := Tryz.zeroValue241
  t105 := Tryz.underlying233
  a105 := Tryz.isAgg233
  z105 := Tryz.sizeOf233
  v105 := Tryz.zeroValue233
  t119 := Tryz.underlying251
  a119 := Tryz.isAgg251
  z119 := Tryz.sizeOf251
  t138 := Tryz.underlying253
  a138 := Tryz.isAgg253
  z138 := Tryz.sizeOf253
  v138 := Tryz.zeroValue253
  t139 := Tryz.underlying254
  a139 := Tryz.isAgg254
  z139 := Tryz.sizeOf254
  v139 := Tryz.zeroValue254
  t146 := Tryz.underlying242
  a146 := Tryz.isAgg242
  z146 := Tryz.sizeOf242
  v146 := Tryz.zeroValue242
  g1 := by kernel_rfl
  g3 := by kernel_rfl
  g4 := by kernel_rfl }
open Go.RowKit Go.Lib in
/-- strings.Split. (LAID: no walk: one application.) -/
theorem Tryz.strings_Split (s sep : ByteArray) (m : Int) (w : World) (hs : s.size < 4294967281) (hm : w.cell? ⟨2, 0, none⟩ = some (.int .i64 m)) (h1 : 1 ≤ sep.size) :
    Calls Tryz.prog 74 #[.string s, .string sep] w fun e w' =>
      e = .returned (.slice (some ⟨w.heap.size, 0, none⟩) (Lib.countB s sep + 1) (Lib.countB s sep + 1)) ∧ w' = w.alloc (.cells ((Lib.splitB sep 0 (Lib.countB s sep) s).map Value.string).toArray 9) := Any.strings_Split Tryz.lays146 (by kernel_rfl) s sep m w hs hm h1
def Tryz.lays147_ren : Go.Shelf.Ren := ⟨fun | 147 => 145 | 221 => 137 | 268 => 175 | 138 => 176 | 143 => 107 | 195 => 209 | 197 => 210 | 218 => 211 | 219 => 159 | 260 => 223 | 217 => 202 | 225 => 203 | 224 => 204 | 267 => 205 | 266 => 220 | 314 => 221 | n => n, fun | 9 => 9 | 3 => 3 | 31 => 26 | 4 => 4 | 0 => 0 | 105 => 233 | 21 => 21 | 5 => 5 | 46 => 142 | 119 => 251 | 139 => 254 | 138 => 253 | 146 => 242 | 51 => 241 | n => n, fun | 1 => 2 | 3 => 5 | 4 => 6 | n => n⟩
theorem Tryz.lays147 : Go.Proofs.Lays.n147 Tryz.prog Tryz.lays147_ren := {
  mixed := by kernel_rfl
  f138 := Tryz.func176.trans (congrArg some (by kernel_rfl))
  f143 := Tryz.func107.trans (congrArg some (by kernel_rfl))
  f147 := Tryz.func145.trans (congrArg some (by kernel_rfl))
  f195 := Tryz.func209.trans (congrArg some (by kernel_rfl))
  f197 := Tryz.func210.trans (congrArg some (by kernel_rfl))
  f217 := Tryz.func202.trans (congrArg some (by kernel_rfl))
  f218 := Tryz.func211.trans (congrArg some (by kernel_rfl))
  f219 := Tryz.func159.trans (congrArg some (by kernel_rfl))
  f221 := Tryz.func137.trans (congrArg some (by kernel_rfl))
  f224 := Tryz.func204.trans (congrArg some (by kernel_rfl))
  f225 := Tryz.func203.trans (congrArg some (by kernel_rfl))
  f260 := Tryz.func223.trans (congrArg some (by kernel_rfl))
  f266 := Tryz.func220.trans (congrArg some (by kernel_rfl))
  f267 := Tryz.func205.trans (congrArg some (by kernel_rfl))
  f268 := Tryz.func175.trans (congrArg some (by kernel_rfl))
  f314 := Tryz.func221.trans (congrArg some (by kernel_rfl))
  t0 := Tryz.underlying0
  a0 := Tryz.isAgg0
  z0 := Tryz.sizeOf0
  v0 := Tryz.zeroValue0
  t3 := Tryz.underlying3
  a3 := Tryz.isAgg3
  z3 := Tryz.sizeOf3
  v3 := Tryz.zeroValue3
  t4 := Tryz.underlying4
  a4 := Tryz.isAgg4
  z4 := Tryz.sizeOf4
  v4 := Tryz.zeroValue4
  t5 := Tryz.underlying5
  a5 := Tryz.isAgg5
  z5 := Tryz.sizeOf5
  v5 := Tryz.zeroValue5
  t9 := Tryz.underlying9
  a9 := Tryz.isAgg9
  z9 := Tryz.sizeOf9
  v9 := Tryz.zeroValue9
  t21 := Tryz.underlying21
  a21 := Tryz.isAgg21
  z21 := Tryz.sizeOf21
  v21 := Tryz.zeroValue21
  t31 := Tryz.underlying26
  a31 := Tryz.isAgg26
  z31 := Tryz.sizeOf26
  v31 := Tryz.zeroValue26
  t46 := Tryz.underlying142
  a46 := Tryz.isAgg142
  z46 := Tryz.sizeOf142
  v46 := Tryz.zeroValue142
  t51 := Tryz.underlying241
  a51 := Tryz.isAgg241
  z51 := Tryz.sizeOf241
  v51 := Tryz.zeroValue241
  t105 := Tryz.underlying233
  a105 := Tryz.isAgg233
  z105 := Tryz.sizeOf233
  v105 := Tryz.zeroValue233
  t119 := Tryz.underlying251
  a119 := Tryz.isAgg251
  z119 := Tryz.sizeOf251
  t138 := Tryz.underlying253
  a138 := Tryz.isAgg253
  z138 := Tryz.sizeOf253
  v138 := Tryz.zeroValue253
  t139 := Tryz.underlying254
  a139 := Tryz.isAgg254
  z139 := Tryz.sizeOf254
  v139 := Tryz.zeroValue254
  t146 := Tryz.underlying242
  a146 := Tryz.isAgg242
  z146 := Tryz.sizeOf242
  v146 := Tryz.zeroValue242
  g1 := by kernel_rfl
  g3 := by kernel_rfl
  g4 := by kernel_rfl }
open Go.RowKit Go.Lib in
/-- strings.SplitN, n > 0. (LAID: no walk: one application.) -/
theorem Tryz.strings_SplitN (s sep : ByteArray) (n : Nat) (m : Int) (w : World) (hs : s.size < 4294967281) (hm : w.cell? ⟨2, 0, none⟩ = some (.int .i64 m)) (h1 : 1 ≤ sep.size) (hn : 1 ≤ n) (hn63 : n ≤ 9223372036854775807) :
    Calls Tryz.prog 145 #[.string s, .string sep, .int .i64 n] w fun e w' =>
      e = .returned (.slice (some ⟨w.heap.size, 0, none⟩) (Lib.splitB sep 0 (min n (s.size + 1) - 1) s).length (min n (s.size + 1))) ∧ w' = w.alloc (.cells (Lib.cellsOf (Lib.splitB sep 0 (min n (s.size + 1) - 1) s) (min n (s.size + 1))) 9) := Any.strings_SplitN Tryz.lays147 (by kernel_rfl) s sep n m w hs hm h1 hn hn63
def Tryz.lays110_ren : Go.Shelf.Ren := ⟨fun | 110 => 132 | 109 => 173 | n => n, fun | 31 => 26 | 9 => 9 | 4 => 4 | 3 => 3 | 0 => 0 | n => n, fun | n => n⟩
theorem Tryz.lays110 : Go.Proofs.Lays.n110 Tryz.prog Tryz.lays110_ren := {
  mixed := by kernel_rfl
  f109 := Tryz.func173.trans (congrArg some (by kernel_rfl))
  f110 := Tryz.func132.trans (congrArg some (by kernel_rfl))
  t0 := Tryz.underlying0
  a0 := Tryz.isAgg0
  z0 := Tryz.sizeOf0
  v0 := Tryz.zeroValue0
  t3 := Tryz.underlying3
  a3 := Tryz.isAgg3
  z3 := Tryz.sizeOf3
  v3 := Tryz.zeroValue3
  t4 := Tryz.underlying4
  a4 := Tryz.isAgg4
  z4 := Tryz.sizeOf4
  v4 := Tryz.zeroValue4
  t9 := Tryz.underlying9
  a9 := Tryz.isAgg9
  z9 := Tryz.sizeOf9
  v9 := Tryz.zeroValue9
  t31 := Tryz.underlying26
  a31 := Tryz.isAgg26
  z31 := Tryz.sizeOf26
  v31 := Tryz.zeroValue26 }
open Go.Lib in
/-- slices.Contains at []string: "Contains reports whether v is present in s.": IT RETURNS 'Lib.containsS (the elements) v', which is true just where v is among them ('Lib.containsS_iff'); the world is as it was. ITS CALLEE slices.Index IS MET BY ITS OWN CONTRACT OFF THE SHELF (lay that first): no loop is walked here. (LAID: no walk: one application.) -/
theorem Tryz.slices_Contains_string (b off n c : Nat) (zs : List ByteArray) (x : ByteArray) (w : World) (hz : n ≤ zs.length) (hbig : n ≤ 9223372036854775807) (hc : ∀ j, j < zs.length → w.cell? ⟨b, off + j, none⟩ = some (.string (zs.getD j ByteArray.empty))) :
    Calls Tryz.prog 132 #[.slice (some ⟨b, off, none⟩) n c, .string x] w fun e w' => e = .returned (.bool (Lib.containsS (zs.take n) x)) ∧ w' = w := Any.slices_Contains_string Tryz.lays110 b off n c zs x w hz hbig hc
open Go.Lib in
/-- The same at a slice of length 0, a nil one too. (LAID: no walk: one application.) -/
theorem Tryz.slices_Contains_string_empty (a : Option Addr) (c : Nat) (x : ByteArray) (w : World) :
    Calls Tryz.prog 132 #[.slice a 0 c, .string x] w fun e w' => e = .returned (.bool false) ∧ w' = w := Any.slices_Contains_string_empty Tryz.lays110 a c x w
end Go.Proofs
