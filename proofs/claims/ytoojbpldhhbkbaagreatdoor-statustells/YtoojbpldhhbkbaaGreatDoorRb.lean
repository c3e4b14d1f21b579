/- The walk of the reference's Right. -/
import Derived.Test.YtoojbpldhhbkbaaGreatDoorRa
namespace Go.Proofs.YtoojbpldhhbkbaaGreatDoor
open Go.RowKit Go.Shelf Go.Sort

/-- What the reference asks, in its order. -/
theorem rt_ref (e : Int) (u r : List UInt8) : Vm.rt e u r = (inB e && (Vm.hd u && (u.all (Vm.ok1 (Vm.us e r)) && (r.all (Vm.ok1 Vm.sgn) && decide ((Vm.pt e u r).length ≤ 40))))) := by
  have h1 : u.length ≤ (Vm.pt e u r).length := by unfold Vm.pt; simp; omega
  have h2 : r.length ≤ (Vm.pt e u r).length := by
    unfold Vm.pt Vm.pr; split
    · simp_all
    · simp; omega
  have h3 : Vm.ft e u r = decide ((Vm.pt e u r).length ≤ 40) := by
    unfold Vm.ft
    by_cases h : (Vm.pt e u r).length ≤ 40
    · simp [h]; omega
    · simp [h]
  unfold Vm.rt inB
  rw [h3]
  cases decide (0 ≤ e) <;> cases decide (e < 1000000000) <;> cases decide ((Vm.pt e u r).length ≤ 40) <;> cases Vm.hd u <;> cases u.all (Vm.ok1 (Vm.us e r)) <;> cases r.all (Vm.ok1 Vm.sgn) <;> rfl

theorem us_text (e : Int) (r : List UInt8) : ((if 0 < e then (if r = [] then ByteArray.mk #[46, 43, 126] ++ ByteArray.mk #[58] else ByteArray.mk #[46, 43, 126] ++ ByteArray.mk #[58] ++ ByteArray.mk #[45]) else (if r = [] then ByteArray.mk #[46, 43, 126] else ByteArray.mk #[46, 43, 126] ++ ByteArray.mk #[45])) : ByteArray) = ⟨(Vm.us e r).toArray⟩ := by
  unfold Vm.us Vm.sgn
  split <;> split <;> rfl

theorem b_andf (b : Bool) : (b && false) = false := by cases b <;> rfl

attribute [local go_sem] pb_head in
set_option maxHeartbeats 3200000 in
set_option maxRecDepth 100000 in
theorem xright_cons (e : Int) (c : UInt8) (t r : List UInt8) (w : World) (b1 : Bool) (hin : ∀ W, Calls Tryz.prog 31 #[.int .i64 e, .int .i64 0, .int .i64 999999999] W fun x w' => x = .returned (.bool b1) ∧ w' = W)
    (m : List UInt8) (hm : m = Vm.us e r) (hu : (c :: t).length ≤ 200) (hr : r.length ≤ 200)
    (pl : List UInt8) (hp : ∀ o, Calls Tryz.prog 14 #[.agg #[.int .i64 e, .string ⟨(c :: t).toArray⟩, .string ⟨r.toArray⟩]] (w.alloc o) fun x w' => x = .returned (.string ⟨pl.toArray⟩) ∧ Below (w.alloc o).heap.size (w.alloc o) w') :
    Calls Tryz.prog 34 #[.agg #[.int .i64 e, .string ⟨(c :: t).toArray⟩, .string ⟨r.toArray⟩]] w fun x w' => x = .returned (.bool (b1 && (Vm.dg c && ((c :: t).all (Vm.ok1 m) && (r.all (Vm.ok1 Vm.sgn) && decide (pl.length ≤ 40)))))) ∧ Below w.heap.size w w' := by
  have hb : ∀ o, Below w.heap.size w (w.alloc o) := fun o => (Below.refl _ _).alloc (Nat.le_refl _) _
  obtain ⟨b2, hb2⟩ : ∃ b, b = Vm.dg c := ⟨_, rfl⟩
  obtain ⟨b3, hb3⟩ : ∃ b, b = (c :: t).all (Vm.ok1 m) := ⟨_, rfl⟩
  obtain ⟨b4, hb4⟩ : ∃ b, b = r.all (Vm.ok1 Vm.sgn) := ⟨_, rfl⟩
  have cD : ∀ W, Calls Tryz.prog 51 #[.int .u8 c.toNat] W fun x w' => x = .returned (.bool b2) ∧ w' = W := fun W => by rw [hb2]; exact xdigit_any c W
  have cU : ∀ W, Calls Tryz.prog 52 #[.string ⟨(c :: t).toArray⟩, .string ⟨m.toArray⟩] W fun x w' => x = .returned (.bool b3) ∧ w' = W := fun W => by rw [hb3]; exact xall_any _ _ W hu
  have cR : ∀ W, Calls Tryz.prog 52 #[.string ⟨r.toArray⟩, .string ⟨#[46, 43, 126]⟩] W fun x w' => x = .returned (.bool b4) ∧ w' = W := fun W => by rw [hb4]; exact xall_any r Vm.sgn W hr
  rw [← hb2, ← hb3, ← hb4]
  clear hb2 hb3 hb4
  have hmt := us_text e r
  rw [← hm] at hmt
  clear hm
  have HP := Lib.hid hp
  clear hp
  by_cases he : 0 < e
  · by_cases hr0 : r = []
    · subst hr0
      rw [if_pos he, if_pos rfl] at hmt
      go_enter Tryz.func34, Tryz.ntmps34
      go_wp2_with (first | (go_at_call 31; refine (hin _).mono ?_; rintro x w' ⟨rfl, rfl⟩) | (go_at_call 51; refine (cD _).mono ?_; rintro x w' ⟨rfl, rfl⟩) | (go_at_call 52; with_reducible refine (cU _).mono ?_; rintro x w' ⟨rfl, rfl⟩) | (go_at_call 52; with_reducible refine (cR _).mono ?_; rintro x w' ⟨rfl, rfl⟩) | (go_at_call 14; refine (HP.out _).mono ?_; rintro x w' ⟨rfl, hbw⟩))
      all_goals go_ret
      all_goals first
        | (refine ⟨ret_bool ?_, hb _⟩; simp_all; done)
        | (refine ⟨ret_bool ?_, (hb _).trans (hbw.mono (by simp))⟩; rw [Bool.eq_iff_iff]; simp_all; omega)
    · have hre : r.isEmpty = false := by cases r with
        | nil => exact absurd rfl hr0
        | cons c r => rfl
      rw [if_pos he, if_neg hr0] at hmt
      go_enter Tryz.func34, Tryz.ntmps34
      go_wp2_with (first | (go_at_call 31; refine (hin _).mono ?_; rintro x w' ⟨rfl, rfl⟩) | (go_at_call 51; refine (cD _).mono ?_; rintro x w' ⟨rfl, rfl⟩) | (go_at_call 52; with_reducible refine (cU _).mono ?_; rintro x w' ⟨rfl, rfl⟩) | (go_at_call 52; with_reducible refine (cR _).mono ?_; rintro x w' ⟨rfl, rfl⟩) | (go_at_call 14; refine (HP.out _).mono ?_; rintro x w' ⟨rfl, hbw⟩))
      all_goals go_ret
      all_goals first
        | (refine ⟨ret_bool ?_, hb _⟩; simp_all; done)
        | (refine ⟨ret_bool ?_, (hb _).trans (hbw.mono (by simp))⟩; rw [Bool.eq_iff_iff]; simp_all; omega)
  · by_cases hr0 : r = []
    · subst hr0
      rw [if_neg he, if_pos rfl] at hmt
      have cU' : ∀ W, Calls Tryz.prog 52 #[.string ⟨(c :: t).toArray⟩, .string ⟨#[46, 43, 126]⟩] W fun x w' => x = .returned (.bool b3) ∧ w' = W := fun W => by rw [hmt]; exact cU W
      clear cU hmt
      go_enter Tryz.func34, Tryz.ntmps34
      go_wp2_with (first | (go_at_call 31; refine (hin _).mono ?_; rintro x w' ⟨rfl, rfl⟩) | (go_at_call 51; refine (cD _).mono ?_; rintro x w' ⟨rfl, rfl⟩) | (go_at_call 52; with_reducible refine (cU' _).mono ?_; rintro x w' ⟨rfl, rfl⟩) | (go_at_call 52; with_reducible refine (cR _).mono ?_; rintro x w' ⟨rfl, rfl⟩) | (go_at_call 14; refine (HP.out _).mono ?_; rintro x w' ⟨rfl, hbw⟩))
      all_goals go_ret
      all_goals first
        | (refine ⟨ret_bool ?_, hb _⟩; simp_all; done)
        | (refine ⟨ret_bool ?_, (hb _).trans (hbw.mono (by simp))⟩; rw [Bool.eq_iff_iff]; simp_all; omega)
    · have hre : r.isEmpty = false := by cases r with
        | nil => exact absurd rfl hr0
        | cons c r => rfl
      rw [if_neg he, if_neg hr0] at hmt
      go_enter Tryz.func34, Tryz.ntmps34
      go_wp2_with (first | (go_at_call 31; refine (hin _).mono ?_; rintro x w' ⟨rfl, rfl⟩) | (go_at_call 51; refine (cD _).mono ?_; rintro x w' ⟨rfl, rfl⟩) | (go_at_call 52; with_reducible refine (cU _).mono ?_; rintro x w' ⟨rfl, rfl⟩) | (go_at_call 52; with_reducible refine (cR _).mono ?_; rintro x w' ⟨rfl, rfl⟩) | (go_at_call 14; refine (HP.out _).mono ?_; rintro x w' ⟨rfl, hbw⟩))
      all_goals go_ret
      all_goals first
        | (refine ⟨ret_bool ?_, hb _⟩; simp_all; done)
        | (refine ⟨ret_bool ?_, (hb _).trans (hbw.mono (by simp))⟩; rw [Bool.eq_iff_iff]; simp_all; omega)

attribute [local go_sem] pb_head in
set_option maxHeartbeats 1600000 in
set_option maxRecDepth 100000 in
theorem xright_nil (e : Int) (r : List UInt8) (w : World) (b1 : Bool) (hin : ∀ W, Calls Tryz.prog 31 #[.int .i64 e, .int .i64 0, .int .i64 999999999] W fun x w' => x = .returned (.bool b1) ∧ w' = W) :
    Calls Tryz.prog 34 #[.agg #[.int .i64 e, .string ⟨([] : List UInt8).toArray⟩, .string ⟨r.toArray⟩]] w fun x w' => x = .returned (.bool false) ∧ Below w.heap.size w w' := by
  have hb : ∀ o, Below w.heap.size w (w.alloc o) := fun o => (Below.refl _ _).alloc (Nat.le_refl _) _
  by_cases he : 0 < e
  all_goals
    by_cases hr0 : r = []
    · subst hr0
      go_enter Tryz.func34, Tryz.ntmps34
      go_wp2_with (go_at_call 31; refine (hin _).mono ?_; rintro x w' ⟨rfl, rfl⟩)
      all_goals go_ret
      all_goals exact ⟨rfl, hb _⟩
    · have hre : r.isEmpty = false := by cases r with
        | nil => exact absurd rfl hr0
        | cons c r => rfl
      go_enter Tryz.func34, Tryz.ntmps34
      go_wp2_with (go_at_call 31; refine (hin _).mono ?_; rintro x w' ⟨rfl, rfl⟩)
      all_goals go_ret
      all_goals exact ⟨rfl, hb _⟩

theorem xright_any (e : Int) (u r : List UInt8) (w : World) (h0 : -9223372036854775808 ≤ e) (h1 : e ≤ 9223372036854775807) (hu : u.length ≤ 200) (hr : r.length ≤ 200) (htab : Lib.TabIs Tryz.prog w "internal/strconv.uint64pow10" .u64 Lib.pow10Tab) :
    Calls Tryz.prog 34 #[.agg #[.int .i64 e, .string ⟨u.toArray⟩, .string ⟨r.toArray⟩]] w fun x w' => x = .returned (.bool (Vm.rt e u r)) ∧ Below w.heap.size w w' := by
  have hb : ∀ o, Below w.heap.size w (w.alloc o) := fun o => (Below.refl _ _).alloc (Nat.le_refl _) _
  have hT := Lib.tabBelow_of_tabIs htab
  cases u with
  | nil =>
    rw [show Vm.rt e [] r = false from rt_hd rfl]
    exact xright_nil e r w (inB e) (xin_any e)
  | cons c t =>
    rw [rt_ref]
    exact xright_cons e c t r w (inB e) (xin_any e) _ rfl hu hr _ (fun o => xprint_any e (c :: t) r _ h0 h1 hu hr (hT _ (hb o)))

end Go.Proofs.YtoojbpldhhbkbaaGreatDoor
