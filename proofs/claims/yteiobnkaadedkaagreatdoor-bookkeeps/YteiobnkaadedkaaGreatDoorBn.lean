/- whole: a text that parts no lines. -/
import Derived.Test.YteiobnkaadedkaaGreatDoorBb
import Derived.Laws.RangeAny
import Derived.Laws.RangeString
import Derived.Lib.MapLaws
import Derived.BigRegion
import Derived.Deep.LoopGhost
import Derived.OrdersHeld
namespace Go.Proofs.YteiobnkaadedkaaGreatDoor
open Go.RowKit Go.Sort Go.Maps

set_option maxRecDepth 100000 in
set_option maxHeartbeats 1000000 in
theorem irune_err (w : World) : Calls Tryz.prog 113 #[.string ⟨#[9, 10]⟩, .int .i32 65533] w fun x w' => x = .returned (.int .i64 (-1)) ∧ Below w.heap.size w w' := by
  have n0 : ∀ ty, (Instr.next (.pointer (some ⟨w.heap.size, 0, none⟩)) true ty).run Tryz.prog (w.iter ⟨#[9, 10]⟩ 0) = .ok (.tuple #[.bool true, .int .i64 0, .int .i32 9]) (w.iter ⟨#[9, 10]⟩ 1) := fun ty => run_next_ascii (P := Tryz.prog) w ⟨#[9, 10]⟩ 0 ty (by decide) (by decide)
  have n1 : ∀ ty, (Instr.next (.pointer (some ⟨w.heap.size, 0, none⟩)) true ty).run Tryz.prog (w.iter ⟨#[9, 10]⟩ 1) = .ok (.tuple #[.bool true, .int .i64 1, .int .i32 10]) (w.iter ⟨#[9, 10]⟩ 2) := fun ty => run_next_ascii (P := Tryz.prog) w ⟨#[9, 10]⟩ 1 ty (by decide) (by decide)
  have n2 := fun ty => run_next_end (P := Tryz.prog) w ⟨#[9, 10]⟩ 2 ty (by decide)
  go_enter Tryz.func113, Tryz.ntmps113
  go_wp2
  refine wp_loop_rounds 3 ?_
  rw [rounds_succ]
  go_wp2
  rw [rounds_succ]
  go_wp2
  rw [rounds_succ]
  go_wp2
  go_ret
  exact ⟨rfl, (Below.refl _ _).alloc (Nat.le_refl _) _⟩
theorem vr_any (r : Int) (w : World) (h1 : 128 ≤ r) (h2 : r ≤ 1114111) (h4 : r < 55296 ∨ 57343 < r) : Calls Tryz.prog 129 #[.int .i32 r] w fun x w' => x = .returned (.bool true) ∧ w' = w := by
  rcases h4 with h4 | h4
  · go_enter Tryz.func129, Tryz.ntmps129
    go_wp2
    go_ret
    exact ⟨rfl, rfl⟩
  · have h5 : ¬ r < 55296 := by omega
    go_enter Tryz.func129, Tryz.ntmps129
    go_wp2
    go_ret
    exact ⟨rfl, rfl⟩
theorem enc_shape (r : Int) (h1 : 128 ≤ r) (h2 : r ≤ 1114111) : (∃ x y : UInt8, Utf8.encode r = ⟨#[x, y]⟩ ∧ 128 ≤ y.toNat) ∨ (∃ x y z : UInt8, Utf8.encode r = ⟨#[x, y, z]⟩) ∨ ∃ x y z u : UInt8, Utf8.encode r = ⟨#[x, y, z, u]⟩ := by
  have key : ∀ c : Nat, ¬ c < 128 → (∃ x y : UInt8, (if c < 0x80 then (⟨#[UInt8.ofNat c]⟩ : ByteArray) else if c < 0x800 then ⟨#[UInt8.ofNat (0xC0 + c / 64), UInt8.ofNat (0x80 + c % 64)]⟩ else if c < 0x10000 then ⟨#[UInt8.ofNat (0xE0 + c / 4096), UInt8.ofNat (0x80 + c / 64 % 64), UInt8.ofNat (0x80 + c % 64)]⟩ else ⟨#[UInt8.ofNat (0xF0 + c / 262144), UInt8.ofNat (0x80 + c / 4096 % 64), UInt8.ofNat (0x80 + c / 64 % 64), UInt8.ofNat (0x80 + c % 64)]⟩) = ⟨#[x, y]⟩ ∧ 128 ≤ y.toNat) ∨ (∃ x y z : UInt8, (if c < 0x80 then (⟨#[UInt8.ofNat c]⟩ : ByteArray) else if c < 0x800 then ⟨#[UInt8.ofNat (0xC0 + c / 64), UInt8.ofNat (0x80 + c % 64)]⟩ else if c < 0x10000 then ⟨#[UInt8.ofNat (0xE0 + c / 4096), UInt8.ofNat (0x80 + c / 64 % 64), UInt8.ofNat (0x80 + c % 64)]⟩ else ⟨#[UInt8.ofNat (0xF0 + c / 262144), UInt8.ofNat (0x80 + c / 4096 % 64), UInt8.ofNat (0x80 + c / 64 % 64), UInt8.ofNat (0x80 + c % 64)]⟩) = ⟨#[x, y, z]⟩) ∨ ∃ x y z u : UInt8, (if c < 0x80 then (⟨#[UInt8.ofNat c]⟩ : ByteArray) else if c < 0x800 then ⟨#[UInt8.ofNat (0xC0 + c / 64), UInt8.ofNat (0x80 + c % 64)]⟩ else if c < 0x10000 then ⟨#[UInt8.ofNat (0xE0 + c / 4096), UInt8.ofNat (0x80 + c / 64 % 64), UInt8.ofNat (0x80 + c % 64)]⟩ else ⟨#[UInt8.ofNat (0xF0 + c / 262144), UInt8.ofNat (0x80 + c / 4096 % 64), UInt8.ofNat (0x80 + c / 64 % 64), UInt8.ofNat (0x80 + c % 64)]⟩) = ⟨#[x, y, z, u]⟩ := by
    intro c hc
    rw [if_neg hc]
    by_cases h5 : c < 0x800
    · rw [if_pos h5]
      refine .inl ⟨_, _, rfl, ?_⟩
      simp only [UInt8.toNat_ofNat']
      omega
    · rw [if_neg h5]
      by_cases h6 : c < 0x10000
      · rw [if_pos h6]; exact .inr (.inl ⟨_, _, _, rfl⟩)
      · rw [if_neg h6]; exact .inr (.inr ⟨_, _, _, _, rfl⟩)
  unfold Utf8.encode
  refine key _ ?_
  split
  · omega
  · decide
theorem ixb_empty (y : UInt8) (w : World) : Calls Tryz.prog 70 #[.string ⟨#[]⟩, .int .u8 y.toNat] w fun e w' => e = .returned (.int .i64 (-1)) ∧ w' = w := by
  have c := Tryz.stringslite_IndexByte ⟨#[]⟩ y.toNat w
  go_enter Tryz.func70, Tryz.ntmps70
  go_wp2_with fail
  refine c.mono ?_
  rintro e w' ⟨rfl, rfl⟩
  go_wp2
  go_ret
  exact ⟨rfl, rfl⟩
set_option maxRecDepth 100000 in
set_option maxHeartbeats 1000000 in
theorem irune_no (r : Int) (w : World) (h1 : 128 ≤ r) (h2 : r ≤ 1114111) (h3 : r ≠ 65533) (h4 : r < 55296 ∨ 57343 < r) : Calls Tryz.prog 113 #[.string ⟨#[9, 10]⟩, .int .i32 r] w fun x w' => x = .returned (.int .i64 (-1)) ∧ Below w.heap.size w w' := by
  have hE := enc_shape r h1 h2
  have e1 : ¬ r < 128 := by omega
  have e2 : (r == 65533) = false := by simpa using h3
  have cV := vr_any r w h1 h2 h4
  rcases hE with ⟨x, y, hE, hy⟩ | ⟨x, y, z, hE⟩ | ⟨x, y, z, u, hE⟩
  · have hy10 : ((10 : Int) != (y.toNat : Int)) = true := by simp; omega
    have cI := fun W => ixb_empty y W
    have g0 : 1 < (ByteArray.mk #[x, y]).size := Nat.lt_succ_self 1
    have g1 : (ByteArray.mk #[9, 10])[1] = 10 := rfl
    have g2 : (ByteArray.mk #[x, y])[1]'g0 = y := rfl
    have e3 : (ByteArray.mk #[9, 10]).extract 2 2 = ⟨#[]⟩ := rfl
    go_enter Tryz.func113, Tryz.ntmps113
    go_wp2_with fail
    refine cV.mono ?_
    rintro x w1 ⟨rfl, rfl⟩
    clear cV
    go_wp2_with fail
    go_step3
    go_wp2_with fail
    refine wp_loop_rounds 1 ?_
    rw [rounds_succ]
    go_wp2_with fail
    go_step3
    go_wp2_with fail
    go_region
    go_wp2_with fail
    refine wp_region_held (S := fun _ => True) (by kernel_rfl) ?_
    refine wpAnyH_take (i := 0) (v := .string ⟨#[9, 10]⟩) rfl (by kernel_rfl) (by kernel_rfl) (by kernel_rfl) (fun _ _ _ h => h) (.inl ⟨rfl, fun w' _ => by simp [go_sem]⟩) trivial ?_
    refine wpAnyH_take (i := 1) (v := .int .i64 1) rfl (by kernel_rfl) (by kernel_rfl) (by kernel_rfl) (fun _ _ _ h => h) (.inl ⟨rfl, fun w' _ => by simp [go_sem]⟩) trivial ?_
    refine wpAnyH_take (i := 2) (v := .int .i64 2) rfl (by kernel_rfl) (by kernel_rfl) (by kernel_rfl) (fun _ _ _ h => h) (.inl ⟨rfl, fun w' _ => by simp [go_sem]; rfl⟩) trivial ?_
    refine wpAnyH_take (i := 3) (v := .string ⟨#[]⟩) rfl (by kernel_rfl) (by kernel_rfl) (by kernel_rfl) (fun _ _ _ h => h) (.inl ⟨rfl, fun w' _ => by simp [go_sem]; rfl⟩) trivial ?_
    refine wpAnyH_take (i := 4) (v := .string ⟨#[x, y]⟩) rfl (by kernel_rfl) (by kernel_rfl) (by kernel_rfl) (fun _ _ _ h => h) (.inl ⟨rfl, fun w' _ => by simp [go_sem]⟩) trivial ?_
    refine wpAnyH_take (i := 5) (v := .int .i64 1) rfl (by kernel_rfl) (by kernel_rfl) (by kernel_rfl) (fun _ _ _ h => h) (.inl ⟨rfl, fun w' _ => by simp [go_sem]⟩) trivial ?_
    refine wpAnyH_take (i := 6) (v := .int .u8 y.toNat) rfl (by kernel_rfl) (by kernel_rfl) (by kernel_rfl) (fun _ _ _ h => h) (.inl ⟨rfl, fun w' _ => by simp [go_sem]; rfl⟩) trivial ?_
    refine wpAnyH_all (rs := [7]) (by kernel_rfl) (by simp) fun j hj => ?_
    obtain rfl : j = 7 := by simpa using hj
    refine wpOp_go rfl rfl ?_
    unfold Oper.wp
    simp [go_sem]
    refine (cI _).mono ?_
    rintro z w2 ⟨rfl, rfl⟩
    refine wpAnyH_take (i := 8) (v := .int .i64 (-1)) rfl (by kernel_rfl) (by kernel_rfl) (by kernel_rfl) (fun _ _ _ h => h) (.inl ⟨rfl, fun w' _ => by simp [go_sem]⟩) trivial ?_
    refine wpAnyH_done (by kernel_rfl) ?_ _
    go_wp2
    simp only [Exit.noGoto_ret, Exit.inBlock, Exit.then]
    change bodyPost Tryz.prog Tryz.f113 _ Exit.ret _ _
    exact bodyPost_ret (v := .int .i64 (-1)) (by simp [results, Tryz.results113, go_sem]) rfl ⟨rfl, ((Below.refl _ _).drew).drew⟩
  all_goals
    go_enter Tryz.func113, Tryz.ntmps113
    go_wp2_with fail
    refine cV.mono ?_
    rintro x w1 ⟨rfl, rfl⟩
    clear cV
    go_wp2_with fail
    go_step3
    go_wp2_with fail
    refine wp_loop_rounds 1 ?_
    rw [rounds_succ]
    go_wp2
    rw [Exit.noGoto_ret]
    go_ret
    exact ⟨rfl, Below.refl _ _⟩
/-- What a rune's bytes are, that is none of the first 128. -/
theorem dec_hi (s : ByteArray) (i : Nat) (hi : i < s.size) (hb : 128 ≤ (s.get! i).toNat) : 128 ≤ (Utf8.decode s i).1 ∧ (Utf8.decode s i).1 ≤ 1114111 ∧ ((Utf8.decode s i).1 < 55296 ∨ 57343 < (Utf8.decode s i).1) ∧ 1 ≤ (Utf8.decode s i).2 ∧ i + (Utf8.decode s i).2 ≤ s.size ∧ ∀ j, i ≤ j → j < i + (Utf8.decode s i).2 → 128 ≤ (s.get! j).toNat := by
  rw [Lib.decode_at]
  have l1 : (s.get! (i + 1)).toNat < 256 := UInt8.toNat_lt _
  have l2 : (s.get! (i + 2)).toNat < 256 := UInt8.toNat_lt _
  have l3 : (s.get! (i + 3)).toNat < 256 := UInt8.toNat_lt _
  have l0 : (s.get! i).toNat < 256 := UInt8.toNat_lt _
  rcases Lib.decodeN_shape (s.size - i) (s.get! i).toNat (s.get! (i + 1)).toNat (s.get! (i + 2)).toNat (s.get! (i + 3)).toNat with ⟨h, _⟩ | ⟨h1, h2, h3, h4, e⟩ | ⟨h1, h2, h3, h4, h5, h6, e⟩ | ⟨h1, h2, h3, h4, h5, h6, h7, e⟩ | e
  · omega
  · rw [e]
    refine ⟨h4, by show _ ≤ _; omega, by show _ ∨ _; omega, by show 1 ≤ 2; omega, by show i + 2 ≤ _; omega, fun j hj1 hj2 => ?_⟩
    have : j < i + 2 := hj2
    obtain rfl | rfl : j = i ∨ j = i + 1 := by omega
    · exact hb
    · omega
  · rw [e]
    refine ⟨by show 128 ≤ _; omega, by show _ ≤ _; omega, by show _ ∨ _; omega, by show 1 ≤ 3; omega, by show i + 3 ≤ _; omega, fun j hj1 hj2 => ?_⟩
    have : j < i + 3 := hj2
    obtain rfl | rfl | rfl : j = i ∨ j = i + 1 ∨ j = i + 2 := by omega
    · exact hb
    · omega
    · omega
  · rw [e]
    refine ⟨by show 128 ≤ _; omega, h7, by show _ ∨ _; omega, by show 1 ≤ 4; omega, by show i + 4 ≤ _; omega, fun j hj1 hj2 => ?_⟩
    have : j < i + 4 := hj2
    obtain rfl | rfl | rfl | rfl : j = i ∨ j = i + 1 ∨ j = i + 2 ∨ j = i + 3 := by omega
    · exact hb
    · omega
    · omega
    · omega
  · rw [e]
    refine ⟨by show 128 ≤ 65533; omega, by show 65533 ≤ 1114111; omega, by show 65533 < 55296 ∨ 57343 < 65533; omega, by show 1 ≤ 1; omega, by show i + 1 ≤ _; omega, fun j hj1 hj2 => ?_⟩
    have : j < i + 1 := hj2
    obtain rfl : j = i := by omega
    exact hb
/-- Does it part lines? -/
def prts (s : List UInt8) : Bool := s.any fun c => c == 9 || c == 10
theorem prts_whole (s : List UInt8) : prts s = false ↔ Whole s := by
  unfold prts Whole
  rw [List.any_eq_false]
  constructor
  · intro h
    exact ⟨fun hm => by have := h 9 hm; simp at this, fun hm => by have := h 10 hm; simp at this⟩
  · rintro ⟨h1, h2⟩ x hx
    simp only [Bool.or_eq_true, beq_iff_eq, not_or]
    exact ⟨fun e => h1 (e ▸ hx), fun e => h2 (e ▸ hx)⟩
theorem ia_prts : ∀ s : List UInt8, decide (0 ≤ Lib.indexAny s [9, 10]) = prts s
  | [] => rfl
  | c :: s => by
    have ih := ia_prts s
    have hge := Lib.indexAny_ge [9, 10] s
    unfold Lib.indexAny prts
    rw [List.any_cons]
    unfold prts at ih
    by_cases h : c = 9 ∨ c = 10
    · have h1 : ([9, 10] : List UInt8).contains c = true := by rcases h with rfl | rfl <;> rfl
      rw [if_pos h1]
      rcases h with rfl | rfl <;> simp
    · have h1 : ([9, 10] : List UInt8).contains c = false := by
        simp only [List.contains_cons, List.contains_nil, Bool.or_false, Bool.or_eq_false_iff, beq_eq_false_iff_ne]
        exact ⟨fun e => h (.inl e), fun e => h (.inr e)⟩
      have h2 : (c == 9 || c == 10) = false := by
        simp only [Bool.or_eq_false_iff, beq_eq_false_iff_ne]
        exact ⟨fun e => h (.inl e), fun e => h (.inr e)⟩
      rw [h1, h2, Bool.false_or, ← ih, if_neg (by simp)]
      by_cases h3 : Lib.indexAny s [9, 10] = -1
      · rw [h3]; rfl
      · rw [if_neg (by simpa using h3)]
        rw [Bool.eq_iff_iff]; simp; omega
end Go.Proofs.YteiobnkaadedkaaGreatDoor
