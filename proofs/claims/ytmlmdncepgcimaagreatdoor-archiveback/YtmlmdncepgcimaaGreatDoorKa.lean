/- The walks of archive's count and cutFile, on what archive.Write writes. -/
import Derived.Test.YtmlmdncepgcimaaGreatDoorSk
import Derived.WalkKit
import Derived.OwnWalk
import Derived.BigCall
import Derived.Below
import Derived.Lib.Hide
import Derived.Lib.QuietBelow
import Derived.Lib.AtoiErrMem
import Derived.Lib.ItoaNum
import Derived.Lib.ItoaLen
import Derived.WalkSpells
import Derived.WalkLawsBesides
import Derived.Deep.QuietTactic
import Derived.BigQuiet
import Derived.Laws.Cover1
import Derived.OrdersHeld
namespace Go.Proofs.YtmlmdncepgcimaaGreatDoor
open Go.RowKit Go.Shelf Go.Sort
namespace Arc

theorem bt2 {w w1 w2 : World} (h : Below w.heap.size w w1) (k : Below w1.heap.size w1 w2) : Below w.heap.size w w2 := h.trans (k.mono h.size)
/-- A number as it is written is read. -/
theorem dd_unfold (u : Nat) : Lib.decDigits u = if u < 10 then [UInt8.ofNat (48 + u)] else Lib.decDigits (u / 10) ++ [UInt8.ofNat (48 + u % 10)] := by
  rw [Lib.decDigits]
  split <;> rfl
theorem d1 (k : Nat) (h : k < 10) : (UInt8.ofNat (48 + k)).toNat = 48 + k := by
  simp [UInt8.toNat_ofNat']; omega
theorem pu_step (acc k : Nat) (hk : k < 10) (ha : acc < 1000000000) (t : List UInt8) : Lib.parseUint10 acc (UInt8.ofNat (48 + k) :: t) = Lib.parseUint10 (acc * 10 + k) t := by
  conv => lhs; unfold Lib.parseUint10
  rw [d1 k hk, if_pos (by omega), if_neg (by omega), if_neg (by omega), show 48 + k - 48 = k by omega]
theorem pu_dd (u : Nat) : u < 1000000000 → ∀ (t : List UInt8), Lib.parseUint10 0 (Lib.decDigits u ++ t) = Lib.parseUint10 u t := by
  induction u using Nat.strongRecOn with
  | ind u ih =>
    intro hu t
    rw [dd_unfold]
    by_cases h : u < 10
    · rw [if_pos h, List.singleton_append, pu_step 0 u h (by omega)]; simp
    · rw [if_neg h, List.append_assoc, ih (u / 10) (by omega) (by omega), List.singleton_append, pu_step _ _ (by omega) (by omega), show u / 10 * 10 + u % 10 = u by omega]
theorem dd_head (u : Nat) : ∃ c t, Lib.decDigits u = c :: t ∧ c.toNat ≠ 43 ∧ c.toNat ≠ 45 := by
  induction u using Nat.strongRecOn with
  | ind u ih =>
    rw [dd_unfold]
    by_cases h : u < 10
    · rw [if_pos h]; exact ⟨_, _, rfl, by rw [d1 u h]; omega, by rw [d1 u h]; omega⟩
    · rw [if_neg h]
      obtain ⟨c, t, e, h1, h2⟩ := ih (u / 10) (by omega)
      exact ⟨c, _, by rw [e]; rfl, h1, h2⟩
theorem atoi_dd (u : Nat) (hu : u < 1000000000) : Lib.atoiAll (Lib.itoa u) = .ok (u : Int) := by
  rw [show Lib.itoa (u : Int) = Lib.decDigits u by simp [Lib.itoa]]
  obtain ⟨c, t, e, h1, h2⟩ := dd_head u
  have hp := pu_dd u hu []
  rw [List.append_nil, e] at hp
  rw [e]
  unfold Lib.atoiAll
  simp only [h1, h2, or_self, if_false, Lib.parseMag, reduceCtorEq]
  rw [hp]
  simp only [Lib.parseUint10]
  rw [if_neg (by omega)]
  simp
theorem count_any (n : Nat) (hn : n < 1000000000) (most : Int) (w : World) (ht : Lib.TabIs Tryz.prog w "internal/strconv.uint64pow10" .u64 Lib.pow10Tab) :
    Calls Tryz.prog 206 #[.string ⟨(Lib.itoa n).toArray⟩, .int .i64 most] w fun e w' => e = .returned (.tuple #[.int .i64 n, .bool (decide ((n : Int) ≤ most))]) ∧ Below w.heap.size w w' := by
  have hl : (Lib.itoa n).length ≤ 21 := Lib.itoa_length_le n (by omega) (by omega)
  have cA := Tryz.strconv_Atoi_ok ⟨(Lib.itoa n).toArray⟩ (by simp [ByteArray.size]; omega) n (atoi_dd n hn) w
  have cI := fun w1 h1 => Tryz.strconv_Itoa n (by omega) (by omega) w1 h1
  have HT := Lib.hid ht
  clear ht
  generalize Lib.itoa n = li at cA cI hl ⊢
  have h0 : (0 : Int) ≤ (n : Int) := by omega
  by_cases hm : (n : Int) ≤ most
  · rw [decide_eq_true hm]
    go_enter Tryz.func206, Tryz.ntmps206
    go_wp2_with fail
    refine cA.mono ?_
    rintro e w1 ⟨rfl, hw1⟩
    have b1 : Below w.heap.size w w1 := by
      rcases hw1 with rfl | ⟨t, rfl⟩
      · exact Below.refl _ _
      · exact Lib.bytesWorld_below _ _ _
    have cJ := cI w1 (Lib.tabBelow_of_tabIs HT.out w1 b1)
    clear hw1 cA cI
    go_wp2_with fail
    refine cJ.mono ?_
    rintro e w2 ⟨rfl, k, os, hw2⟩
    have b2 : Below w1.heap.size w1 w2 := by rw [hw2]; exact Lib.below_grow _ _ (Nat.le_refl _) k os
    clear hw2 cJ
    go_wp2
    go_ret2
    exact ⟨rfl, bt2 b1 b2⟩
  · rw [decide_eq_false hm]
    go_enter Tryz.func206, Tryz.ntmps206
    go_wp2_with fail
    refine cA.mono ?_
    rintro e w1 ⟨rfl, hw1⟩
    have b1 : Below w.heap.size w w1 := by
      rcases hw1 with rfl | ⟨t, rfl⟩
      · exact Below.refl _ _
      · exact Lib.bytesWorld_below _ _ _
    clear hw1 cA cI
    go_wp2
    go_ret2
    exact ⟨rfl, b1⟩
theorem ixb_hit (c : UInt8) (r : List UInt8) : ∀ p : List UInt8, (∀ x ∈ p, x ≠ c) → Lib.indexByte (p ++ c :: r) c = (p.length : Int)
  | [], _ => by simp [Lib.indexByte]
  | x :: p, h => by
    have hx : (x == c) = false := by rw [beq_eq_false_iff_ne]; exact h x (by simp)
    have ih := ixb_hit c r p fun y hy => h y (List.mem_cons_of_mem _ hy)
    simp only [List.cons_append, Lib.indexByte, hx]
    rw [ih]
    simp only [Bool.false_eq_true, if_false, List.length_cons]
    rw [if_neg (by first | (simp; omega) | simp)]
    omega
theorem cut_hit {c : UInt8} {p r : List UInt8} (h : ∀ x ∈ p, x ≠ c) : Lib.cut (p ++ c :: r) [c] = (p, r, true) := by
  unfold Lib.cut
  rw [Lib.index_one, ixb_hit c r p h, if_pos (by omega)]
  simp
theorem below_dN (w : World) (n : Nat) : Below w.heap.size w (w.drewN n) := by
  induction n with
  | zero => exact Below.refl _ _
  | succ n ih => exact ih.drew
theorem cut1 (c : UInt8) (p r : List UInt8) (h : ∀ x ∈ p, x ≠ c) (hl : (p ++ c :: r).length ≤ 1000000) (m : Int) (w : World) (hm : w.cell? ⟨2, 0, none⟩ = some (.int .i64 m)) :
    Calls Tryz.prog 110 #[.string ⟨(p ++ c :: r).toArray⟩, .string ⟨#[c]⟩] w fun e w' => e = .returned (.tuple #[.string ⟨p.toArray⟩, .string ⟨r.toArray⟩, .bool true]) ∧ Below w.heap.size w w' := by
  have hs : (ByteArray.mk (p ++ c :: r).toArray).size < 4294967281 := by
    have : (ByteArray.mk (p ++ c :: r).toArray).size = (p ++ c :: r).length := by simp [ByteArray.size]
    omega
  refine (Tryz.strings_Cut ⟨(p ++ c :: r).toArray⟩ ⟨#[c]⟩ m w hs hm).mono ?_
  rintro e w' ⟨rfl, n, rfl⟩
  have e1 : Lib.cut (ByteArray.mk (p ++ c :: r).toArray).data.toList (ByteArray.mk #[c]).data.toList = (p, r, true) := cut_hit h
  rw [e1]
  exact ⟨rfl, below_dN w n⟩
theorem clone_any (l : List UInt8) (w : World) (hl : l.length ≤ 1000000) : Calls Tryz.prog 44 #[.string ⟨l.toArray⟩] w fun e w' => e = .returned (.string ⟨l.toArray⟩) ∧ Below w.heap.size w w' := by
  go_enter Tryz.func44, Tryz.ntmps44
  go_wp2_with fail
  refine (Tryz.stringslite_Clone ⟨l.toArray⟩ _ (by simp [ByteArray.size]; omega)).mono ?_
  rintro e w' ⟨rfl, hb⟩
  go_wp2
  go_ret
  exact ⟨rfl, hb⟩
theorem it_10 (u : Nat) : ∀ x ∈ Lib.itoa (u : Int), x ≠ 10 := by
  rw [show Lib.itoa (u : Int) = Lib.decDigits u by simp [Lib.itoa]]
  induction u using Nat.strongRecOn with
  | ind u ih =>
    rw [dd_unfold]
    have one : ∀ k, k < 10 → UInt8.ofNat (48 + k) ≠ 10 := fun k hk e => by
      have := congrArg UInt8.toNat e
      rw [d1 k hk] at this
      simp at this
      omega
    by_cases h : u < 10
    · rw [if_pos h]; intro x hx; rw [List.mem_singleton.1 hx]; exact one u h
    · rw [if_neg h]
      intro x hx
      rcases List.mem_append.1 hx with hx | hx
      · exact ih (u / 10) (by omega) x hx
      · rw [List.mem_singleton.1 hx]; exact one (u % 10) (by omega)
theorem bA1 (w : World) (A : Obj) : Below w.heap.size w (w.alloc A) := (Below.refl _ _).alloc (Nat.le_refl _) _
/-- An operation that is carried out. -/
theorem wpOp_go {P : Program} {ops : Array Oper} {Q : Exit → Act → World → Prop} {i : Nat} {o : Oper} {K : Act → World → Prop} {a : Act} {w : World} (hi : ops[i]? = some o) (hg : o.guard = none) (h : o.wp P a w K Q) : wpOp P ops Q i K a w := by
  unfold wpOp
  simp only [hi]
  rw [if_pos (by simp [Region.wanted, hg])]
  exact .inl h
theorem ba_take' (l : List UInt8) (k : Nat) : (ByteArray.mk l.toArray).extract 0 k = ⟨(l.take k).toArray⟩ := by
  apply ByteArray.ext; simp
theorem ba_drop' (l : List UInt8) (k : Nat) : (ByteArray.mk l.toArray).extract k l.length = ⟨(l.drop k).toArray⟩ := by
  apply ByteArray.ext; simp [List.take_of_length_le]
/-- Two cells that are written whole. -/
structure K2 (W : World) (g : Nat) : Prop where
  lt : g < W.heap.size
  c0 : W.cell? ⟨g, 0, none⟩ = some (.string ⟨#[]⟩)
  c1 : W.cell? ⟨g, 1, none⟩ = some (.string ⟨#[]⟩)
  f : ∀ j, W.frozen? ⟨g, j, none⟩ = false
theorem K2.on {W w' : World} {g : Nat} (h : K2 W g) (k : Below W.heap.size W w') : K2 w' g :=
  ⟨Nat.lt_of_lt_of_le h.lt k.size, by rw [k.cell h.lt]; exact h.c0, by rw [k.cell h.lt]; exact h.c1, fun j => by rw [k.frozen h.lt]; exact h.f j⟩
theorem k2_new (w : World) : K2 (w.alloc (.cells #[.string ⟨#[]⟩, .string ⟨#[]⟩] 61)) w.heap.size := ⟨by simp, by simp, by simp, by simp⟩
set_option maxRecDepth 100000 in
set_option maxHeartbeats 3200000 in
theorem cutf_good (p d rest : List UInt8) (hp : ∀ x ∈ p, x ≠ 32 ∧ x ≠ 10) (hl : (p ++ 32 :: (Lib.itoa d.length ++ 10 :: (d ++ 10 :: rest))).length ≤ 1000000) (m : Int) (w : World) (hm : w.cell? ⟨2, 0, none⟩ = some (.int .i64 m)) (ht : Lib.TabIs Tryz.prog w "internal/strconv.uint64pow10" .u64 Lib.pow10Tab) :
    Calls Tryz.prog 163 #[.string ⟨(p ++ 32 :: (Lib.itoa d.length ++ 10 :: (d ++ 10 :: rest))).toArray⟩] w fun e w' => e = .returned (.tuple #[.agg #[.string ⟨p.toArray⟩, .string ⟨d.toArray⟩], .string ⟨rest.toArray⟩, .bool true]) ∧ Below w.heap.size w w' := by
  have hi10 : ∀ x ∈ p ++ 32 :: Lib.itoa d.length, x ≠ 10 := by
    intro x hx
    rcases List.mem_append.1 hx with hx | hx
    · exact (hp x hx).2
    · rcases List.mem_cons.1 hx with rfl | hx
      · decide
      · exact it_10 d.length x hx
  have hdl : d.length < 1000000000 := by simp at hl; omega
  have b0 := bA1 w (.cells #[.string ⟨#[]⟩, .string ⟨#[]⟩] 61)
  have hm0 := (b0.cell (block_lt_of_cell hm)).trans hm
  have e1 : p ++ 32 :: (Lib.itoa d.length ++ 10 :: (d ++ 10 :: rest)) = (p ++ 32 :: Lib.itoa d.length) ++ 10 :: (d ++ 10 :: rest) := by simp
  rw [e1] at hl ⊢
  have c1 := cut1 10 (p ++ 32 :: Lib.itoa d.length) (d ++ 10 :: rest) hi10 hl m _ hm0
  generalize hs : (p ++ 32 :: Lib.itoa d.length) ++ 10 :: (d ++ 10 :: rest) = s at c1 hl ⊢
  have HK := Lib.hid (k2_new w)
  have HB := Lib.hid b0
  have HM := Lib.hid hm0
  have HT := Lib.hid (Lib.tabBelow_of_tabIs ht _ b0)
  clear b0 hm0 hm ht e1
  go_enter Tryz.func163, Tryz.ntmps163
  go_wp2_with fail
  refine c1.mono ?_
  rintro e w1 ⟨rfl, b1⟩
  clear c1
  have hM1 := (b1.cell (block_lt_of_cell HM.out)).trans HM.out
  have hl1 : (p ++ 32 :: Lib.itoa d.length).length ≤ 1000000 := by rw [← hs] at hl; simp at hl ⊢; omega
  have hl2 : (d ++ 10 :: rest).length ≤ 1000000 := by rw [← hs] at hl; simp at hl ⊢; omega
  have c2 := cut1 32 p (Lib.itoa d.length) (fun x hx => (hp x hx).1) hl1 m w1 hM1
  generalize p ++ 32 :: Lib.itoa d.length = line at c2 ⊢
  go_wp2_with fail
  refine c2.mono ?_
  rintro e w2 ⟨rfl, b2⟩
  clear c2 hM1
  have b02 := bt2 b1 b2
  have c3 := count_any d.length hdl (((d ++ 10 :: rest).length : Int) - 1) w2 (Lib.tabBelow_of_tabIs HT.out w2 b02)
  rw [decide_eq_true (show (d.length : Int) ≤ ((d ++ 10 :: rest).length : Int) - 1 by simp; omega)] at c3
  have hx : ∀ (h : d.length < (ByteArray.mk (d ++ 10 :: rest).toArray).size), (ByteArray.mk (d ++ 10 :: rest).toArray)[d.length]'h = 10 := fun h => by
    show (d ++ 10 :: rest)[d.length]'_ = 10
    simp
  have hk : d.length < (d ++ 10 :: rest).length := by simp
  have hk' : (d.length : Int) < ((d ++ 10 :: rest).length : Int) := by omega
  have t1 : (d ++ 10 :: rest).take d.length = d := by simp
  have t2 : (d ++ 10 :: rest).drop (d.length + 1) = rest := by simp
  have hsz : (ByteArray.mk (d ++ 10 :: rest).toArray).size = (d ++ 10 :: rest).length := by simp [ByteArray.size]
  have c4 := fun W => clone_any p W (by simp at hl1; omega)
  have c5 := fun W => clone_any d W (by simp at hl2; omega)
  generalize Lib.itoa d.length = li at c3 hs ⊢
  generalize hr : d ++ 10 :: rest = rs at *
  go_wp2_with fail
  refine c3.mono ?_
  rintro e w3 ⟨rfl, b3⟩
  have b03 := bt2 b02 b3
  clear c3 b1 b2 b3 b02
  have HK3 := HK.out.on b03
  have hb03 := bt2 HB.out b03
  clear HB HK HM HT b03
  go_wp2_with fail
  refine wp_region_held (S := fun W => w.heap.size < W.heap.size) (by kernel_rfl) ?_
  generalize hX : { w3 with drawn := w3.drawn + 1 } = X
  have k1 : K2 X w.heap.size := by rw [← hX]; exact HK3.on (Below.refl _ _).drew
  have bX : Below w.heap.size w X := by rw [← hX]; exact hb03.drew
  clear hX HK3 hb03
  have hS := k1.lt
  have hk2 : d.length ≤ rs.length := by omega
  have e2 : (ByteArray.mk rs.toArray).extract 0 d.length = ⟨d.toArray⟩ := by rw [ba_take', t1]
  refine wpAnyH_take (i := 0) (v := .string ⟨p.toArray⟩) rfl (by kernel_rfl) (by kernel_rfl) (by kernel_rfl) (fun _ _ _ h => h) (.inl ⟨rfl, fun w' hw => by simp [go_sem]⟩) hS ?_
  refine wpAnyH_take (i := 2) (v := .string ⟨rs.toArray⟩) rfl (by kernel_rfl) (by kernel_rfl) (by kernel_rfl) (fun _ _ _ h => h) (.inl ⟨rfl, fun w' hw => by simp [go_sem]⟩) hS ?_
  refine wpAnyH_take (i := 3) (v := .int .i64 d.length) rfl (by kernel_rfl) (by kernel_rfl) (by kernel_rfl) (fun _ _ _ h => h) (.inl ⟨rfl, fun w' hw => by simp [go_sem]⟩) hS ?_
  refine wpAnyH_take (i := 4) (v := .string ⟨d.toArray⟩) rfl (by kernel_rfl) (by kernel_rfl) (by kernel_rfl) (fun _ _ _ h => h) (.inl ⟨rfl, fun w' hw => by simp [go_sem, hk2, e2]⟩) hS ?_
  refine wpAnyH_all (rs := [1]) (by kernel_rfl) (by simp) fun j hj => ?_
  obtain rfl : j = 1 := by simpa using hj
  refine wpOp_go rfl rfl ?_
  unfold Oper.wp
  simp [go_sem]
  refine (c4 _).mono ?_
  rintro x X2 ⟨rfl, b2⟩
  have hS2 := Nat.lt_of_lt_of_le hS b2.size
  refine ⟨hS2, ?_⟩
  refine wpAnyH_all (rs := [5]) (by kernel_rfl) (by simp) fun j hj => ?_
  obtain rfl : j = 5 := by simpa using hj
  refine wpOp_go rfl rfl ?_
  unfold Oper.wp
  simp [go_sem]
  refine (c5 _).mono ?_
  rintro x X3 ⟨rfl, b3⟩
  have hS3 := Nat.lt_of_lt_of_le hS2 b3.size
  refine ⟨hS3, ?_⟩
  have k3 := (k1.on b2).on b3
  have bX3 := bt2 (bt2 bX b2) b3
  clear k1 bX b2 b3 c4 c5
  refine wpAnyH_take (i := 6) (v := .agg #[.string ⟨p.toArray⟩, .string ⟨d.toArray⟩]) rfl (by kernel_rfl) (by kernel_rfl) (by kernel_rfl) (fun _ _ _ h => h) (.inl ⟨rfl, fun w' hw => by simp [go_sem]⟩) hS3 ?_
  refine wpAnyH_all (rs := [7]) (by kernel_rfl) (by simp) fun j hj => ?_
  obtain rfl : j = 7 := by simpa using hj
  refine wpOp_go rfl rfl ?_
  unfold Oper.wp
  obtain ⟨kl, q0, q1, qf⟩ := k3
  simp [go_sem, q0, q1, qf]
  refine ⟨hS3, wpAnyH_done (by kernel_rfl) ?_ _⟩
  have z0 : ((X3.setCell ⟨w.heap.size, 0, none⟩ (.string ⟨p.toArray⟩)).setCell ⟨w.heap.size, 1, none⟩ (.string ⟨d.toArray⟩)).cell? ⟨w.heap.size, 0, none⟩ = some (.string ⟨p.toArray⟩) := by simp [go_sem, q0]
  have z1 : ((X3.setCell ⟨w.heap.size, 0, none⟩ (.string ⟨p.toArray⟩)).setCell ⟨w.heap.size, 1, none⟩ (.string ⟨d.toArray⟩)).cell? ⟨w.heap.size, 1, none⟩ = some (.string ⟨d.toArray⟩) := by simp [go_sem, q1]
  have zf : ∀ j, ((X3.setCell ⟨w.heap.size, 0, none⟩ (.string ⟨p.toArray⟩)).setCell ⟨w.heap.size, 1, none⟩ (.string ⟨d.toArray⟩)).frozen? ⟨w.heap.size, j, none⟩ = false := fun j => by simpa using qf j
  have bZ : Below w.heap.size w ((X3.setCell ⟨w.heap.size, 0, none⟩ (.string ⟨p.toArray⟩)).setCell ⟨w.heap.size, 1, none⟩ (.string ⟨d.toArray⟩)) := (bX3.setCell (Nat.le_refl _) _).setCell (Nat.le_refl _) _
  clear q0 q1 qf bX3 hS3 hS2 hS kl
  generalize ((X3.setCell ⟨w.heap.size, 0, none⟩ (.string ⟨p.toArray⟩)).setCell ⟨w.heap.size, 1, none⟩ (.string ⟨d.toArray⟩)) = X4 at *
  have hk3 : (d.length : Int) + 1 ≤ (rs.length : Int) := by omega
  go_wp2_with fail
  go_region
  have y0 : ((X4.setCell ⟨w.heap.size, 0, none⟩ (.string ⟨p.toArray⟩)).setCell ⟨w.heap.size, 1, none⟩ (.string ⟨d.toArray⟩)).drew.cell? ⟨w.heap.size, 0, none⟩ = some (.string ⟨p.toArray⟩) := by simp [go_sem, z0]
  have y1 : ((X4.setCell ⟨w.heap.size, 0, none⟩ (.string ⟨p.toArray⟩)).setCell ⟨w.heap.size, 1, none⟩ (.string ⟨d.toArray⟩)).drew.cell? ⟨w.heap.size, 1, none⟩ = some (.string ⟨d.toArray⟩) := by simp [go_sem, z1]
  have bY := ((bZ.setCell (p := ⟨w.heap.size, 0, none⟩) (Nat.le_refl _) (.string ⟨p.toArray⟩)).setCell (p := ⟨w.heap.size, 1, none⟩) (Nat.le_refl _) (.string ⟨d.toArray⟩)).drew
  generalize ((X4.setCell ⟨w.heap.size, 0, none⟩ (.string ⟨p.toArray⟩)).setCell ⟨w.heap.size, 1, none⟩ (.string ⟨d.toArray⟩)).drew = X5 at *
  have e3 : (ByteArray.mk rs.toArray).extract (d.length + 1) rs.length = ⟨rest.toArray⟩ := by rw [ba_drop', t2]
  go_wp2_with fail
  exact bodyPost_ret (v := .tuple #[.agg #[.string ⟨p.toArray⟩, .string ⟨d.toArray⟩], .string ((ByteArray.mk rs.toArray).extract (d.length + 1) rs.length), .bool true]) (by simp [results, Tryz.results163, go_sem, y0, y1]) rfl ⟨by rw [e3], bY⟩
set_option maxRecDepth 100000 in
set_option maxHeartbeats 3200000 in
/-- A file whose number reaches beyond the end is none. -/
theorem cutf_no (p r : List UInt8) (n : Nat) (hn : n < 1000000000) (hr : r.length ≤ n) (hp : ∀ x ∈ p, x ≠ 32 ∧ x ≠ 10) (hl : (p ++ 32 :: (Lib.itoa n ++ 10 :: r)).length ≤ 1000000) (m : Int) (w : World) (hm : w.cell? ⟨2, 0, none⟩ = some (.int .i64 m)) (ht : Lib.TabIs Tryz.prog w "internal/strconv.uint64pow10" .u64 Lib.pow10Tab) :
    Calls Tryz.prog 163 #[.string ⟨(p ++ 32 :: (Lib.itoa n ++ 10 :: r)).toArray⟩] w fun e w' => e = .returned (.tuple #[.agg #[.string ⟨#[]⟩, .string ⟨#[]⟩], .string ⟨#[]⟩, .bool false]) ∧ Below w.heap.size w w' := by
  have hi10 : ∀ x ∈ p ++ 32 :: Lib.itoa n, x ≠ 10 := by
    intro x hx
    rcases List.mem_append.1 hx with hx | hx
    · exact (hp x hx).2
    · rcases List.mem_cons.1 hx with rfl | hx
      · decide
      · exact it_10 n x hx
  have b0 := bA1 w (.cells #[.string ⟨#[]⟩, .string ⟨#[]⟩] 61)
  have hm0 := (b0.cell (block_lt_of_cell hm)).trans hm
  have e1 : p ++ 32 :: (Lib.itoa n ++ 10 :: r) = (p ++ 32 :: Lib.itoa n) ++ 10 :: r := by simp
  rw [e1] at hl ⊢
  have c1 := cut1 10 (p ++ 32 :: Lib.itoa n) r hi10 hl m _ hm0
  generalize hs : (p ++ 32 :: Lib.itoa n) ++ 10 :: r = s at c1 hl ⊢
  have HK := Lib.hid (k2_new w)
  have HB := Lib.hid b0
  have HM := Lib.hid hm0
  have HT := Lib.hid (Lib.tabBelow_of_tabIs ht _ b0)
  clear b0 hm0 hm ht e1
  go_enter Tryz.func163, Tryz.ntmps163
  go_wp2_with fail
  refine c1.mono ?_
  rintro e w1 ⟨rfl, b1⟩
  clear c1
  have hM1 := (b1.cell (block_lt_of_cell HM.out)).trans HM.out
  have hl1 : (p ++ 32 :: Lib.itoa n).length ≤ 1000000 := by rw [← hs] at hl; simp at hl ⊢; omega
  have c2 := cut1 32 p (Lib.itoa n) (fun x hx => (hp x hx).1) hl1 m w1 hM1
  generalize p ++ 32 :: Lib.itoa n = line at c2 ⊢
  go_wp2_with fail
  refine c2.mono ?_
  rintro e w2 ⟨rfl, b2⟩
  clear c2 hM1
  have b02 := bt2 b1 b2
  have c3 := count_any n hn ((r.length : Int) - 1) w2 (Lib.tabBelow_of_tabIs HT.out w2 b02)
  rw [decide_eq_false (show ¬ (n : Int) ≤ (r.length : Int) - 1 by omega)] at c3
  generalize Lib.itoa n = li at c3 hs ⊢
  have hrl : r.length ≤ 1000000 := by rw [← hs] at hl; simp at hl; omega
  go_wp2_with fail
  refine c3.mono ?_
  rintro e w3 ⟨rfl, b3⟩
  have b03 := bt2 b02 b3
  have hb03 := bt2 HB.out b03
  obtain ⟨kl, q0, q1, qf⟩ := HK.out.on b03
  clear c3 b1 b2 b3 b02 HB HK HM HT b03
  go_wp2_with fail
  have y0 : ((w3.setCell ⟨w.heap.size, 0, none⟩ (.string ⟨#[]⟩)).setCell ⟨w.heap.size, 1, none⟩ (.string ⟨#[]⟩)).cell? ⟨w.heap.size, 0, none⟩ = some (.string ⟨#[]⟩) := by simp [go_sem, q0]
  have y1 : ((w3.setCell ⟨w.heap.size, 0, none⟩ (.string ⟨#[]⟩)).setCell ⟨w.heap.size, 1, none⟩ (.string ⟨#[]⟩)).cell? ⟨w.heap.size, 1, none⟩ = some (.string ⟨#[]⟩) := by simp [go_sem, q1]
  exact bodyPost_ret (v := .tuple #[.agg #[.string ⟨#[]⟩, .string ⟨#[]⟩], .string ⟨#[]⟩, .bool false]) (by simp [results, Tryz.results163, go_sem, y0, y1]) rfl ⟨rfl, (hb03.setCell (Nat.le_refl _) _).setCell (Nat.le_refl _) _⟩
end Arc
end Go.Proofs.YtmlmdncepgcimaaGreatDoor
