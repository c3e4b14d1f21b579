/- The walk of version.Right, whole. -/
import Derived.Test.YtlldfmnoidndmaaGreatDoorPq
namespace Go.Proofs.YtlldfmnoidndmaaGreatDoor
open Go.RowKit Go.Shelf Go.Sort
attribute [local go_sem] pb_head

set_option maxHeartbeats 1600000 in
set_option maxRecDepth 100000 in
theorem right_r (e : Int) (c : UInt8) (t r : List UInt8) (w : World) (g0 : 0 ≤ e) (g1 : e < 1000000000) (g2 : Vm.ft e (c :: t) r = true) (g3 : Vm.dg c = true) (g4 : (c :: t).all (Vm.ok1 (Vm.us e r)) = true) (b : Bool) (g5 : r.all (Vm.ok1 Vm.sgn) = b) (h0 : -9223372036854775808 ≤ e) (h1 : e ≤ 9223372036854775807) (hu : (c :: t).length ≤ 200) (hr : r.length ≤ 200) (htab : Lib.TabIs Tryz.prog w "internal/strconv.uint64pow10" .u64 Lib.pow10Tab) :
    Calls Tryz.prog 120 #[.agg #[.int .i64 e, .string ⟨(c :: t).toArray⟩, .string ⟨r.toArray⟩]] w fun x w' => x = .returned (.bool (Vm.rt e (c :: t) r)) ∧ Below w.heap.size w w' := by
  have hb : Below w.heap.size w (w.alloc (.cells #[.int .i64 e, .string ⟨(c :: t).toArray⟩, .string ⟨r.toArray⟩] 37)) := (Below.refl _ _).alloc (Nat.le_refl _) _
  have hT := (Lib.tabBelow_of_tabIs htab).on hb
  clear htab
  have c0 : (w.alloc (.cells #[.int .i64 e, .string ⟨(c :: t).toArray⟩, .string ⟨r.toArray⟩] 37)).cell? ⟨w.heap.size, 0, none⟩ = some (.int .i64 e) := by simp
  have c1 : (w.alloc (.cells #[.int .i64 e, .string ⟨(c :: t).toArray⟩, .string ⟨r.toArray⟩] 37)).cell? ⟨w.heap.size, 1, none⟩ = some (.string ⟨(c :: t).toArray⟩) := by simp
  have c2 : (w.alloc (.cells #[.int .i64 e, .string ⟨(c :: t).toArray⟩, .string ⟨r.toArray⟩] 37)).cell? ⟨w.heap.size, 2, none⟩ = some (.string ⟨r.toArray⟩) := by simp
  have k0 := cell_regrown c0
  have k1 := cell_regrown c1
  have k2 := cell_regrown c2
  clear c0 c1 c2
  have HZ := Lib.hid (rt_rev (u := c :: t) g0 g1 g2 g3 g4 g5)
  have cF : ∀ d os, Calls Tryz.prog 157 #[.agg #[.int .i64 e, .string ⟨(c :: t).toArray⟩, .string ⟨r.toArray⟩]] (grow (redrawn (w.alloc (.cells #[.int .i64 e, .string ⟨(c :: t).toArray⟩, .string ⟨r.toArray⟩] 37)) d) os) fun x w'' => x = .returned (.bool true) ∧ ∃ p : Regrown, w'' = grow (redrawn (w.alloc (.cells #[.int .i64 e, .string ⟨(c :: t).toArray⟩, .string ⟨r.toArray⟩] 37)) p.d) p.os := fun d os => by rw [← g2]; exact Calls.regrown_of (fits_any e (c :: t) r _ h0 h1 (tab_regrown hT hb.size d os))
  have cD : ∀ d os, Calls Tryz.prog 155 #[.int .u8 c.toNat] (grow (redrawn (w.alloc (.cells #[.int .i64 e, .string ⟨(c :: t).toArray⟩, .string ⟨r.toArray⟩] 37)) d) os) fun x w'' => x = .returned (.bool true) ∧ ∃ p : Regrown, w'' = grow (redrawn (w.alloc (.cells #[.int .i64 e, .string ⟨(c :: t).toArray⟩, .string ⟨r.toArray⟩] 37)) p.d) p.os := by rw [← g3]; exact regrown_same (fun W => digit_any c W)
  have cU : ∀ d os, Calls Tryz.prog 159 #[.agg #[.int .i64 e, .string ⟨(c :: t).toArray⟩, .string ⟨r.toArray⟩]] (grow (redrawn (w.alloc (.cells #[.int .i64 e, .string ⟨(c :: t).toArray⟩, .string ⟨r.toArray⟩] 37)) d) os) fun x w'' => x = .returned (.string ⟨(Vm.us e r).toArray⟩) ∧ ∃ p : Regrown, w'' = grow (redrawn (w.alloc (.cells #[.int .i64 e, .string ⟨(c :: t).toArray⟩, .string ⟨r.toArray⟩] 37)) p.d) p.os := fun d os => Calls.regrown_of (us_any e (c :: t) r _)
  have cM : ∀ d os, Calls Tryz.prog 158 #[.string ⟨(c :: t).toArray⟩, .string ⟨(Vm.us e r).toArray⟩] (grow (redrawn (w.alloc (.cells #[.int .i64 e, .string ⟨(c :: t).toArray⟩, .string ⟨r.toArray⟩] 37)) d) os) fun x w'' => x = .returned (.bool true) ∧ ∃ p : Regrown, w'' = grow (redrawn (w.alloc (.cells #[.int .i64 e, .string ⟨(c :: t).toArray⟩, .string ⟨r.toArray⟩] 37)) p.d) p.os := by rw [← g4]; exact regrown_same (fun W => made_any _ _ W hu)
  have cR : ∀ d os, Calls Tryz.prog 158 #[.string ⟨r.toArray⟩, .string ⟨#[46, 43, 126]⟩] (grow (redrawn (w.alloc (.cells #[.int .i64 e, .string ⟨(c :: t).toArray⟩, .string ⟨r.toArray⟩] 37)) d) os) fun x w'' => x = .returned (.bool b) ∧ ∃ p : Regrown, w'' = grow (redrawn (w.alloc (.cells #[.int .i64 e, .string ⟨(c :: t).toArray⟩, .string ⟨r.toArray⟩] 37)) p.d) p.os := by rw [← g5]; exact regrown_same (fun W => made_any r Vm.sgn W hr)
  clear g4 g5
  go_enter Tryz.func120, Tryz.ntmps120
  go_wp2
  refine wp_region_quiet_below (by kernel_rfl) (by kernel_rfl) ?_
  repeat (any_goals (first | go_big_quiet_step ((first | with_reducible exact cF _ _ | with_reducible exact cD _ _ | with_reducible exact cU _ _ | with_reducible exact cM _ _ | with_reducible exact cR _ _)) | quiet_step ((first | with_reducible exact cF _ _ | with_reducible exact cD _ _ | with_reducible exact cU _ _ | with_reducible exact cM _ _ | with_reducible exact cR _ _))))
  refine wpQuiet_nil ?_
  intro _ hw'
  obtain ⟨⟨dq, osq⟩, hw''⟩ := hw'
  subst hw''
  go_wp2
  go_ret
  exact ⟨ret_bool HZ.out.symm, rg hb ⟨⟨dq, osq⟩, rfl⟩⟩

theorem right_any (e : Int) (u r : List UInt8) (w : World) (h0 : -9223372036854775808 ≤ e) (h1 : e ≤ 9223372036854775807) (hu : u.length ≤ 200) (hr : r.length ≤ 200) (htab : Lib.TabIs Tryz.prog w "internal/strconv.uint64pow10" .u64 Lib.pow10Tab) :
    Calls Tryz.prog 120 #[.agg #[.int .i64 e, .string ⟨u.toArray⟩, .string ⟨r.toArray⟩]] w fun x w' => x = .returned (.bool (Vm.rt e u r)) ∧ Below w.heap.size w w' := by
  by_cases g : 0 ≤ e ∧ e < 1000000000
  · obtain ⟨g0, g1⟩ := g
    cases g2 : Vm.ft e u r with
    | false => exact right_f e u r w g0 g1 g2 h0 h1 hu hr htab
    | true =>
      cases u with
      | nil => exact right_0 e r w g0 g1 g2 h0 h1 hr htab
      | cons c t =>
        cases g3 : Vm.dg c with
        | false => exact right_d e c t r w g0 g1 g2 g3 h0 h1 hu hr htab
        | true =>
          cases g4 : (c :: t).all (Vm.ok1 (Vm.us e r)) with
          | false => exact right_u e c t r w g0 g1 g2 g3 g4 h0 h1 hu hr htab
          | true => exact right_r e c t r w g0 g1 g2 g3 g4 _ rfl h0 h1 hu hr htab
  · exact right_e e u r w g h0 h1 hu hr htab

end Go.Proofs.YtlldfmnoidndmaaGreatDoor
namespace Go.Proofs.YtlldfmnoidndmaaGreatDoor
open Go.RowKit Go.Shelf Go.Sort
attribute [local go_sem] pb_head

theorem clone_any (l : List UInt8) (w : World) (hl : l.length ≤ 200) : Calls Tryz.prog 116 #[.string ⟨l.toArray⟩] w fun e w' => e = .returned (.string ⟨l.toArray⟩) ∧ Below w.heap.size w w' := by
  go_enter Tryz.func116, Tryz.ntmps116
  go_wp2_with fail
  refine (Tryz.stringslite_Clone ⟨l.toArray⟩ _ (by have := size_le hl; omega)).mono ?_
  rintro e w' ⟨rfl, hb⟩
  go_wp2
  go_ret
  exact ⟨rfl, hb⟩

theorem ret_cut {a b c d : ByteArray} {x y : Bool} (h1 : a = b) (h2 : c = d) (h3 : x = y) : Ending.returned (.tuple #[.string a, .string c, .bool x]) = .returned (.tuple #[.string b, .string d, .bool y]) := by rw [h1, h2, h3]

theorem lcut_some (l : List UInt8) (k : Nat) (w : World) (hl : l.length ≤ 200) (hk : k < l.length) (hi : Lib.indexByte l 58 = k) : Calls Tryz.prog 154 #[.string ⟨l.toArray⟩, .string ⟨#[58]⟩] w fun e w' =>
    e = .returned (.tuple #[.string ⟨(l.take k).toArray⟩, .string ⟨(l.drop (k + 1)).toArray⟩, .bool true]) ∧ ∃ n, w' = w.drewN n := by
  have HI := Lib.hid hi
  clear hi
  go_enter Tryz.func154, Tryz.ntmps154
  go_wp2_with fail
  refine (Tryz.stringslite_Index_one ⟨l.toArray⟩ 58 _).mono ?_
  rintro e w' ⟨rfl, rfl⟩
  rw [show Lib.indexByte (ByteArray.mk l.toArray).data.toList 58 = (k : Int) from HI.out]
  have h1 : (k : Int) ≤ (l.length : Int) := by omega
  have h2 : (k : Int) + 1 ≤ (l.length : Int) := by omega
  go_wp2_with fail
  go_quiet (fail)
  go_wp2
  go_ret3
  exact ⟨ret_cut (ba_take l k) (ba_drop l (k + 1)) rfl, _, rfl⟩

theorem lcut_none (l : List UInt8) (w : World) (hi : Lib.indexByte l 58 = -1) : Calls Tryz.prog 154 #[.string ⟨l.toArray⟩, .string ⟨#[58]⟩] w fun e w' =>
    e = .returned (.tuple #[.string ⟨l.toArray⟩, .string ⟨#[]⟩, .bool false]) ∧ ∃ n, w' = w.drewN n := by
  have HI := Lib.hid hi
  clear hi
  go_enter Tryz.func154, Tryz.ntmps154
  go_wp2_with fail
  refine (Tryz.stringslite_Index_one ⟨l.toArray⟩ 58 _).mono ?_
  rintro e w' ⟨rfl, rfl⟩
  rw [show Lib.indexByte (ByteArray.mk l.toArray).data.toList 58 = -1 from HI.out]
  go_wp2
  go_ret3
  exact ⟨rfl, 0, rfl⟩

theorem cut_some (l : List UInt8) (k : Nat) (w : World) (hl : l.length ≤ 200) (hk : k < l.length) (hi : Lib.indexByte l 58 = k) : Calls Tryz.prog 117 #[.string ⟨l.toArray⟩, .string ⟨#[58]⟩] w fun e w' =>
    e = .returned (.tuple #[.string ⟨(l.take k).toArray⟩, .string ⟨(l.drop (k + 1)).toArray⟩, .bool true]) ∧ ∃ n, w' = w.drewN n := by
  have HI := Lib.hid hi
  clear hi
  go_enter Tryz.func117, Tryz.ntmps117
  go_wp2_with fail
  refine (lcut_some l k _ hl hk HI.out).mono ?_
  rintro e w' ⟨rfl, n, rfl⟩
  go_wp2
  go_ret3
  exact ⟨rfl, _, rfl⟩
theorem cut_none (l : List UInt8) (w : World) (hi : Lib.indexByte l 58 = -1) : Calls Tryz.prog 117 #[.string ⟨l.toArray⟩, .string ⟨#[58]⟩] w fun e w' =>
    e = .returned (.tuple #[.string ⟨l.toArray⟩, .string ⟨#[]⟩, .bool false]) ∧ ∃ n, w' = w.drewN n := by
  have HI := Lib.hid hi
  clear hi
  go_enter Tryz.func117, Tryz.ntmps117
  go_wp2_with fail
  refine (lcut_none l _ HI.out).mono ?_
  rintro e w' ⟨rfl, n, rfl⟩
  go_wp2
  go_ret3
  exact ⟨rfl, _, rfl⟩

theorem epoch_nil (w : World) : Calls Tryz.prog 118 #[.string ⟨([] : List UInt8).toArray⟩] w fun e w' => e = .returned (.tuple #[.int .i64 0, .bool false]) ∧ w' = w := by
  go_enter Tryz.func118, Tryz.ntmps118
  go_wp2
  go_ret2
  exact ⟨rfl, rfl⟩
theorem epoch_long (l : List UInt8) (w : World) (g : l.isEmpty = false) (hl : 9 < l.length) : Calls Tryz.prog 118 #[.string ⟨l.toArray⟩] w fun e w' => e = .returned (.tuple #[.int .i64 0, .bool false]) ∧ w' = w := by
  go_enter Tryz.func118, Tryz.ntmps118
  go_wp2
  go_ret2
  exact ⟨rfl, rfl⟩
theorem epoch_nought (c d : UInt8) (t : List UInt8) (w : World) (hl : (c :: d :: t).length ≤ 9) (hc : ((c.toNat : Int) == 48) = true) : Calls Tryz.prog 118 #[.string ⟨(c :: d :: t).toArray⟩] w fun e w' => e = .returned (.tuple #[.int .i64 0, .bool false]) ∧ w' = w := by
  simp only [List.length_cons] at hl
  go_enter Tryz.func118, Tryz.ntmps118
  go_wp2
  go_ret2
  exact ⟨rfl, rfl⟩

theorem ep_val {c : UInt8} {m : Nat} (h : Vm.dg c = true) : Value.int .i64 (10 * (m : Int) + ((c.toNat : Int) - 48) % 256) = .int .i64 ((10 * m + (c.toNat - 48) : Nat) : Int) := by
  have := (Vm.dg_iff c).1 h
  congr 1
  omega

set_option maxHeartbeats 800000 in
set_option maxRecDepth 100000 in
theorem epoch_loop (l : List UInt8) (w : World) (hl : l.length ≤ 9) (ge : l.isEmpty = false) (h0 : 0 < (ByteArray.mk l.toArray).size) (g0 : (((((ByteArray.mk l.toArray)[0]'h0).toNat : Int) == 48) = false) ∨ ((((((ByteArray.mk l.toArray)[0]'h0).toNat : Int) == 48) = true) ∧ (!l == [48]) = false)) : Calls Tryz.prog 118 #[.string ⟨l.toArray⟩] w fun e w' =>
    e = .returned (.tuple #[.int .i64 (if l.all Vm.dg = true then Vm.vl 0 l else 0), .bool (l.all Vm.dg)]) ∧ w' = w := by
  obtain ⟨A, hA⟩ : ∃ A, A = (if l.all Vm.dg = true then (Vm.vl 0 l : Int) else 0) := ⟨_, rfl⟩
  have HA : Hid (A = (if l.all Vm.dg = true then (Vm.vl 0 l : Int) else 0)) := hA
  rw [← hA]
  clear hA
  rcases g0 with g0 | ⟨g0, g1⟩
  all_goals
    go_enter Tryz.func118, Tryz.ntmps118
    go_wp2
    go_loop [4, 24] (fun n i => ∃ k m : Nat, k ≤ l.length ∧ i = .int .i64 k ∧ n = .int .i64 m ∧ m < 1000000000 ∧ Hid (m = Vm.vl 0 (l.take k)) ∧ Hid (∀ j (hj : j < l.length), j < k → Vm.dg l[j] = true)) (fun _ i => l.length - (intOf i).toNat)
    case atStart => exact ⟨0, 0, Nat.zero_le _, rfl, rfl, by decide, rfl, fun j _ h => absurd h (Nat.not_lt_zero _)⟩
    case round =>
      obtain ⟨k, m, hk, rfl, rfl, hm, HV, HP⟩ := hrel
      by_cases hlt : k < l.length
      · go_wp2_with (go_at_call 155; refine (digit_any _ _).mono ?_; rintro e w' ⟨rfl, rfl⟩)
        · go_ret2
          have hd : Vm.dg l[k] = false := by have h : (!Vm.dg l[k]) = true := ‹_›; simpa using h
          have ha : l.all Vm.dg = false := (all_no k hlt hd).symm
          exact ⟨by rw [HA.out, ha]; simp, rfl⟩
        · have hd : Vm.dg l[k] = true := by have h : (!Vm.dg l[k]) = false := ‹_›; simpa using h
          have hp : ∀ j (hj : j < l.length), j < k + 1 → Vm.dg l[j] = true := fun j hj h => by
            by_cases e : j = k
            · subst e; exact hd
            · exact HP.out j hj (by omega)
          have hv : 10 * m + (l[k].toNat - 48) = Vm.vl 0 (l.take (k + 1)) := by rw [Vm.vl_take l k hlt, HV.out]
          exact ⟨⟨k + 1, 10 * m + (l[k].toNat - 48), hlt, by go_num, ep_val hd, by rw [hv]; exact Vm.vl_take_lt l (k + 1) (by omega) hp, hv, hp⟩, by simp [intOf]; omega⟩
      · go_wp2
        go_ret2
        have ha : l.all Vm.dg = true := (all_to (fun j hj => HP.out j hj (by omega))).symm
        have hkl : k = l.length := by omega
        exact ⟨by rw [HA.out, ha, HV.out, hkl, List.take_length]; simp, rfl⟩

/-- version.parseEpoch, whole. -/
theorem epoch_any (l : List UInt8) (w : World) : Calls Tryz.prog 118 #[.string ⟨l.toArray⟩] w fun e w' =>
    e = .returned (match Vm.pep l with | none => .tuple #[.int .i64 0, .bool false] | some n => .tuple #[.int .i64 n, .bool true]) ∧ w' = w := by
  cases l with
  | nil => exact epoch_nil w
  | cons c t =>
    by_cases h9 : 9 < (c :: t).length
    · have : Vm.pep (c :: t) = none := by unfold Vm.pep; rw [if_pos (Or.inr (Or.inl h9))]
      rw [this]; exact epoch_long (c :: t) w rfl h9
    · by_cases h48 : c = 48 ∧ t ≠ []
      · obtain ⟨rfl, ht⟩ := h48
        cases t with
        | nil => exact absurd rfl ht
        | cons d t =>
          have : Vm.pep (48 :: d :: t) = none := by unfold Vm.pep; rw [if_pos (Or.inr (Or.inr ⟨rfl, by simp⟩))]
          rw [this]; exact epoch_nought 48 d t w (by omega) rfl
      · have hp : Vm.pep (c :: t) = if (c :: t).all Vm.dg = true then some (Vm.vl 0 (c :: t)) else none := by
          unfold Vm.pep; rw [if_neg]
          rintro (h | h | h)
          · cases h
          · exact h9 h
          · exact h48 ⟨h.1, fun e => h.2 (by rw [e, show c = 48 from h.1])⟩
        have h := epoch_loop (c :: t) w (by omega) rfl (by simp [ByteArray.size]) (by
          by_cases hc : c = 48
          · right
            have ht : t = [] := Classical.byContradiction fun h => h48 ⟨hc, h⟩
            subst hc ht; exact ⟨rfl, rfl⟩
          · left
            rw [pb_head]
            have : c.toNat ≠ 48 := fun e => hc (UInt8.toNat_inj.1 e)
            exact beq_eq_false_iff_ne.2 (by omega))
        rw [hp]
        refine h.mono ?_
        rintro e w' ⟨rfl, rfl⟩
        cases hall : (c :: t).all Vm.dg with
        | false => simp
        | true => simp

end Go.Proofs.YtlldfmnoidndmaaGreatDoor
