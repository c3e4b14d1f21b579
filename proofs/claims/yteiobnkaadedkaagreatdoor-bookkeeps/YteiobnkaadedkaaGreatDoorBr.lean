/- A book: Set walked. -/
import Derived.Test.YteiobnkaadedkaaGreatDoorBq
namespace Go.Proofs.YteiobnkaadedkaaGreatDoor
open Go.RowKit Go.Sort Go.Maps

/-- The sheets behind Set. -/
def sN (p : Bool) (N : Nat → Bk) (i : Nat) (M : Bk) : Nat → Bk := if p = true then upd N i M else N
set_option maxRecDepth 100000 in
theorem set_down (b d pm : Nat) (ns : Nat → Nat) (P : Bk) (N : Nat → Bk) (k s : List UInt8) (w : World) (h : BK w b d pm ns true P N) : Calls Tryz.prog 9 #[.pointer (some ⟨b, 0, none⟩), .string ⟨k.toArray⟩, .string ⟨s.toArray⟩] w fun x w' => x = .returned (evv 6) ∧ w' = w := by
  obtain ⟨hlt, c0, c1, cn, cd, f⟩ := bc_of h.blk
  clear h
  go_enter Tryz.func9, Tryz.ntmps9
  go_wp2
  go_ret
  exact ⟨rfl, rfl⟩
set_option maxRecDepth 100000 in
theorem set_arg (b d pm : Nat) (ns : Nat → Nat) (P : Bk) (N : Nat → Bk) (k s : List UInt8) (w : World) (h : BK w b d pm ns false P N) (hk : k.length ≤ 1000) (hs : s.length ≤ 1000) (hr : rgt k s = false) : Calls Tryz.prog 9 #[.pointer (some ⟨b, 0, none⟩), .string ⟨k.toArray⟩, .string ⟨s.toArray⟩] w fun x w' => x = .returned (evv 1) ∧ Below w.heap.size w w' := by
  obtain ⟨hlt, c0, c1, cn, cd, f⟩ := bc_of h.blk
  have cR := right_any k s w (by omega) (by omega)
  rw [hr] at cR
  clear h
  go_enter Tryz.func9, Tryz.ntmps9
  go_wp2_with fail
  refine cR.mono ?_
  rintro x w1 ⟨rfl, b1⟩
  go_wp2
  go_ret
  exact ⟨rfl, b1⟩
set_option maxRecDepth 100000 in
set_option maxHeartbeats 4000000 in
theorem set_any (b d pm : Nat) (ns : Nat → Nat) (P : Bk) (N : Nat → Bk) (mb : Option Nat) (L : Kv Ent) (e : Bool) (c : Int) (k s : List UInt8) (w : World) (h : BJ w b d pm ns false P N mb L e c) (hr : rgt k s = true) (hG : Gp P N) (hGM : Gd (setN k s P (N (shf k)))) (hlM : (setN k s P (N (shf k))).length ≤ 1000) (hc : c ≤ 9223372036854775807) (hT : tot nl L + (prt (setN k s P (N (shf k)))).length ≤ 1000000) (hn : L.length + 1 < 5000) :
    Calls Tryz.prog 9 #[.pointer (some ⟨b, 0, none⟩), .string ⟨k.toArray⟩, .string ⟨s.toArray⟩] w fun x w' => x = .returned (evv (kcd e c)) ∧ Sx w b d pm ns (!pw3 e c) P (sN (pw3 e c) N (shf k) (setN k s P (N (shf k)))) mb (kL L e c (shF (shf k)) (prt (setN k s P (N (shf k))))) e (ch3 e c) w' := by
  have hi := shf_lt k
  obtain ⟨hk1, hs1⟩ := (rgt_iff k s).1 hr
  have hkl := hk1.2.2
  have hsl := hs1.2
  have cR := right_any k s w (by omega) (by omega)
  rw [hr] at cR
  have cS := fun W => sheet_any k W (by omega)
  have hnok : nok (shF (shf k)) = true := by
    have := shF_len hi
    unfold nok; simp; omega
  have cF := fun W => file_any (shf k) hi W
  have hln := hG.ln _ hi
  have HL : Hid (setN k s P (N (shf k)) = if s = txt k P then delL k (N (shf k)) else putL k s (N (shf k))) := rfl
  have HD : Hid (∀ x, mb = some x → x < w.heap.size) := fun x hx => (h.pd.map x hx).lt
  have Hd : Hid (d < w.heap.size) := (Array.getElem?_eq_some_iff.1 h.pd.blk).1
  generalize setN k s P (N (shf k)) = M at hGM hlM hT HL ⊢
  obtain ⟨i, hie⟩ : ∃ i, i = shf k := ⟨_, rfl⟩
  rw [← hie] at cS hnok cF hln hi HL ⊢
  have HM : Hid (Gd M) := hGM
  have HJ := Lib.hid h
  have cd := (bc_of h.bk.blk).cd
  have hlt := (bc_of h.bk.blk).lt
  have hi' : (i : Int) < 37 := by omega
  clear h hG hGM hie hr hk1 hs1
  go_enter Tryz.func9, Tryz.ntmps9
  go_wp2_with fail
  refine cR.mono ?_
  rintro x w1 ⟨rfl, b1⟩
  have hJ1 := HJ.out.up b1
  have cn1 := (bc_of hJ1.bk.blk).cn i hi
  have hlt1 := (bc_of hJ1.bk.blk).lt
  have cS1 := cS w1
  have cC := clone_map (ns i) (N i) w1 (hJ1.bk.ln i hi)
  clear cR cd hlt cS
  go_wp2_with fail
  refine cS1.mono ?_
  rintro x w2 ⟨rfl, hw⟩
  rw [hw]
  clear hw cS1
  go_wp2_with fail
  refine cC.mono ?_
  rintro x w2 ⟨rfl, hm2, b2⟩
  have b12 := b1.trans (b2.mono b1.size)
  have hJ2 := HJ.out.up b12
  have c12 := (bc_of hJ2.bk.blk).c1
  have hlt2 := (bc_of hJ2.bk.blk).lt
  have hlk := (lmlook hJ2.bk.lp k (by omega)).1
  have hfl := fld77 ⟨(txt k P).toArray⟩
  have Hmn : Hid (w.heap.size ≤ w1.heap.size) := b1.size
  unfold lv at hlk
  clear cC cn1 hlt1 hJ1 b1 b2
  generalize w1.heap.size = m at hm2 Hmn ⊢
  by_cases hs : s = txt k P
  case' pos =>
    rw [← hs] at hlk hfl
    have hse : (s == s) = true := by simp
    have HLe : Hid (M = delL k (N i)) := by show _ = _; rw [HL.out, if_pos hs]
    clear HL hs
    go_wp2_with (at_delete; refine wpList_delete_own _ rfl _ _ 64 9 rfl 77 law9 Tryz.underlying64 Rv m (N i).length _ rfl hm2 _ _ rfl (key9 k (by omega)) ?_; intro w3 hown3 hturn3; go_frame)
    have b3 : Below w.heap.size w w3 := b12.grown hturn3.grown b12.size (fun r hr => by cases hr; exact Hmn.out)
    rw [toD_del] at hown3
    have hm3 : Lm w3 m M := by rw [HLe.out]; exact own_tight hown3
    clear hown3 hturn3 hlk hfl c12 hlt2 hJ2 hm2 b12 hse
  case' neg =>
    have hse : (s == txt k P) = false := by rw [beq_eq_false_iff_ne]; exact hs
    have HLe : Hid (M = putL k s (N i)) := by show _ = _; rw [HL.out, if_neg hs]
    have cK := fun W => clone_any k W (by omega)
    have cV := fun W => clone_any s W (by omega)
    have Hm2 := Lib.hid hm2
    generalize txt k P = tp at hlk hfl hse
    clear HL hs
    go_wp2_with fail
    refine (cK _).mono ?_
    rintro x w3 ⟨rfl, b3⟩
    go_wp2_with fail
    refine (cV _).mono ?_
    rintro x w4 ⟨rfl, b4⟩
    have b24 := b3.trans (b4.mono b3.size)
    have hm4 : Lm w4 m (N i) := lm_on Hm2.out (b24.block m Hm2.out.lt)
    obtain ⟨w5, hrun, hown5, hturn⟩ := hm4.store law9 Tryz.underlying64 (by unfold maxLen; omega) (key9 k (by omega)) (val := lv s) (d := .held (lv s)) (ps := []) rfl
    rw [toD_put] at hown5
    have b04 := b12.trans (b24.mono b12.size)
    have b5 : Below w.heap.size w w5 := b04.grown hturn.grown b04.size (fun r hr => by cases hr; exact Hmn.out)
    have hm5 : Lm w5 m M := by rw [HLe.out]; exact own_tight hown5
    have B5 := Lib.hid b5
    have M5 := Lib.hid hm5
    unfold lv at hrun
    clear hown5 hturn hlk hfl c12 hlt2 hJ2 hm2 b12 b04 b24 hm4 b3 b4 cK cV hse b5 hm5
    go_wp2_with fail
    have b3 := B5.out
    have hm3 := M5.out
    clear B5 M5 hrun
    revert b3 hm3
    generalize w5 = w3
    intro b3 hm3
  all_goals
    refine (cF w3).mono ?_
    rintro x w6 ⟨rfl, hw⟩
    rw [hw]
    clear hw cF
    have hJ3 := HJ.out.up b3
    have cK := keep_any b d pm ns false P N mb L e c (shF i) m M w3 hJ3 hm3 HM.out hlM hnok hc hT hn
    rw [Bool.false_or] at cK
    have B3 := Lib.hid b3
    have M3 := Lib.hid hm3
    clear b3 hm3 hJ3 HLe
    go_wp2_with fail
    refine cK.mono ?_
    rintro x w7 ⟨rfl, hX⟩
    clear cK
    unfold kcd
    cases hp : pw3 e c with
    | false =>
      rw [hp] at hX
      have hS := Sx.below B3.out (Sx.kx hX)
      rw [if_neg (by simp), show evv 14 = .iface 33 (.int .i64 14) from rfl]
      have HP := Lib.hid hp
      clear hX B3 M3 HJ HM hp
      go_wp2
      go_ret
      unfold kcd
      rw [HP.out, if_neg (by simp)]
      exact ⟨rfl, hS⟩
    | true =>
      rw [hp] at hX
      have hS := Sx.sheet hX hi B3.out M3.out Hmn.out HJ.out.bk HD.out Hd.out
      obtain ⟨mb7, hJ7, _⟩ := hX.is
      have c7 := (bc_of hJ7.bk.blk).cn i hi
      have f7 := (bc_of hJ7.bk.blk).f (2 + i)
      have hlt7 := (bc_of hJ7.bk.blk).lt
      have HS := Lib.hid hS
      rw [if_pos rfl, show evv 0 = .nilIface from rfl]
      have HP := Lib.hid hp
      clear hX B3 M3 HJ HM hJ7 hS hp
      go_wp2
      go_ret
      unfold kcd
      rw [HP.out, if_pos rfl]
      exact ⟨rfl, HS.out⟩
end Go.Proofs.YteiobnkaadedkaaGreatDoor
