/- The keeper's acts, walked. -/
import Derived.Test.YtjllnhdampjieaaDoorKa
import Derived.Test.YtjllnhdampjieaaDoorSl
import Derived.Deep.CutRange
import Derived.Deep.CutBlock
import Derived.Deep.RegionWith
namespace Go.Proofs.YtjllnhdampjieaaDoor
open Go.RowKit Go.Sort Go.Maps Go.Shelf

theorem conv1 (x : UInt8) (w : World) : (convert 88 9 (.slice (some ⟨w.heap.size, 0, none⟩) 1 1)).run Tryd.prog (w.alloc (.cells #[.int .u8 x.toNat] 5)) = .ok (.string ⟨#[x]⟩) (w.alloc (.cells #[.int .u8 x.toNat] 5)) :=
  run_convert_bytes_back (P := Tryd.prog) _ 88 9 5 ⟨w.heap.size, 0, none⟩ 1 [x] Tryd.underlying88 Tryd.underlying5 Tryd.underlying9 (fun j hj => by
    have : j = 0 := by simp at hj; omega
    subst this; simp [Addr.add])
theorem rep_one (x : UInt8) : ∀ c, Lib.repeatL [x] c = List.replicate c x
  | 0 => rfl
  | c + 1 => by rw [Lib.repeatL, rep_one x c, List.replicate_succ]; rfl
theorem repeat_any (x : UInt8) (c : Nat) (w : World) (hc : c ≤ 100) : Calls Tryd.prog 43 #[.string ⟨#[x]⟩, .int .i64 c] w fun e w' => e = .returned (.string ⟨(List.replicate c x).toArray⟩) ∧ Below w.heap.size w w' := by
  have h := Tryd.strings_Repeat ⟨#[x]⟩ c w (by omega) (by have : (ByteArray.mk #[x]).size = 1 := rfl
                                                          rw [this]; omega)
  rw [show (ByteArray.mk #[x]).data.toList = [x] from rfl, rep_one] at h
  exact h
/-- Acts in memory. -/
structure Kcl (W : World) (b o : Nat) (l : List Kc) : Prop where
  lt : b < W.heap.size
  c0 : ∀ i (hi : i < l.length), W.cell? ⟨b, o + i * 4, none⟩ = some (.int .i64 l[i].t)
  c1 : ∀ i (hi : i < l.length), W.cell? ⟨b, o + i * 4 + 1, none⟩ = some (.int .i64 l[i].f)
  c2 : ∀ i (hi : i < l.length), W.cell? ⟨b, o + i * 4 + 2, none⟩ = some (.int .i64 l[i].o)
  c3 : ∀ i (hi : i < l.length), W.cell? ⟨b, o + i * 4 + 3, none⟩ = some (.int .i64 l[i].n)
abbrev kco (x : Kc) : Obj := .cells #[.int .i64 x.t, .int .i64 x.f, .int .i64 x.o, .int .i64 x.n] 59 (0, 0)
structure Kx (bx : Nat) (x : Kc) (W : World) : Prop where
  x : W.heap[bx]? = some (kco x)
theorem Kx.c {bx : Nat} {x : Kc} {W : World} (h : Kx bx x W) : W.cell? ⟨bx, 0, none⟩ = some (.int .i64 x.t) ∧ W.cell? ⟨bx, 1, none⟩ = some (.int .i64 x.f) ∧ W.cell? ⟨bx, 2, none⟩ = some (.int .i64 x.o) ∧ W.cell? ⟨bx, 3, none⟩ = some (.int .i64 x.n) :=
  ⟨by simp [World.cell?, h.x], by simp [World.cell?, h.x], by simp [World.cell?, h.x], by simp [World.cell?, h.x]⟩
theorem cvt (a : Int) (W : World) (bl : Nat) (h : W.cell? ⟨bl, 0, none⟩ = some (.int .u8 (97 + (pk a 6 : Nat)))) : (convert 88 9 (.slice (some ⟨bl, 0, none⟩) 1 1)).run Tryd.prog W = .ok (.string ⟨#[ltr a]⟩) W :=
  run_convert_bytes_back (P := Tryd.prog) _ 88 9 5 ⟨bl, 0, none⟩ 1 [ltr a] Tryd.underlying88 Tryd.underlying5 Tryd.underlying9 (fun j hj => by
    have : j = 0 := by simp at hj; omega
    subst this; simp [Addr.add, ltr_nat]; exact h)
theorem i8w (n : Nat) (h : (n : Int) < 6) : IntKind.i64.wrap (97 + (n : Int)) = 97 + n ∧ IntKind.u8.wrap (97 + (n : Int)) = 97 + n := by
  constructor
  · unfold IntKind.wrap; simp [IntKind.signed, IntKind.bits]; omega
  · unfold IntKind.wrap; simp [IntKind.signed, IntKind.bits]; omega
abbrev bto (a : Int) : Obj := .cells #[.int .u8 (97 + (pk a 6 : Nat))] 5
theorem cv3 (a c : Int) (W : World) : (convert 88 9 (.slice (some ⟨W.heap.size, 0, none⟩) 1 1)).run Tryd.prog (W.alloc (bto a)).drew = .ok (.string ⟨#[ltr a]⟩) (W.alloc (bto a)).drew ∧
    (convert 88 9 (.slice (some ⟨W.heap.size, 0, none⟩) 1 1)).run Tryd.prog ((W.alloc (bto a)).alloc (bto c)).drew = .ok (.string ⟨#[ltr a]⟩) ((W.alloc (bto a)).alloc (bto c)).drew ∧
    (convert 88 9 (.slice (some ⟨W.heap.size + 1, 0, none⟩) 1 1)).run Tryd.prog ((W.alloc (bto c)).alloc (bto a)).drew = .ok (.string ⟨#[ltr a]⟩) ((W.alloc (bto c)).alloc (bto a)).drew := by
  refine ⟨cvt a _ _ ?_, cvt a _ _ ?_, cvt a _ _ ?_⟩
  · have : (W.alloc (bto a)).heap[W.heap.size]? = some (bto a) := nb0 _ _
    unfold World.cell?; rw [show ∀ X : World, X.drew.heap = X.heap from fun _ => rfl, this]; rfl
  · have : (W.alloc (bto a)).heap[W.heap.size]? = some (bto a) := nb0 _ _
    have : ((W.alloc (bto a)).alloc (bto c)).heap[W.heap.size]? = some (bto a) := (Below.heap_alloc _ _ _ (by simp)).trans this
    unfold World.cell?; rw [show ∀ X : World, X.drew.heap = X.heap from fun _ => rfl, this]; rfl
  · have : ((W.alloc (bto c)).alloc (bto a)).heap[W.heap.size + 1]? = some (bto a) := by have := nb0 (W.alloc (bto c)) (bto a); rwa [World.size_alloc] at this
    unfold World.cell?; rw [show ∀ X : World, X.drew.heap = X.heap from fun _ => rfl, this]; rfl
theorem wc_same {e : Bool} {c : Int} (h : chg e c = c) (y : List UInt8) : wc e c y = c := by unfold wc; split <;> first | exact h | rfl
set_option maxHeartbeats 4000000 in
set_option maxRecDepth 100000 in
theorem acts_row (b : Nat) (mb : Option Nat) (L : Kv Ent) (e : Bool) (c : Int) (b0 o0 c0 : Nat) (l : List Kc) (w : World) (h : PD w b mb L e c false 0) (hK : Kok L) (hl : Kcl w b0 o0 l) (hn : l.length ≤ 60) (he : e = true → c ≤ 0) (hc : c ≤ 9223372036854775807) (hnd : ¬ DX b mb b0) :
    Calls Tryd.prog 23 #[.pointer (some ⟨b, 0, none⟩), .slice (some ⟨b0, o0, none⟩) l.length c0] w fun x w' => x = .returned (.tuple #[]) ∧ Po b mb (kal L e c l) e c false 0 w w' := by
  have HD := Lib.hid h
  have HK := Lib.hid hK
  have HL := Lib.hid hl
  clear h hK hl
  go_enter Tryd.func23, Tryd.ntmps23
  go_wp2_with fail
  go_loopw [4] (fun iv W => ∃ k : Nat, k ≤ l.length ∧ iv = .int .i64 k ∧ Po b mb (kal L e c (l.take k)) e c false 0 w W) (fun iv _ => l.length - (intOf iv).toNat)
  case atStart => exact ⟨0, Nat.zero_le _, rfl, Po.same HD.out (Kp.refl _ _)⟩
  case round =>
    obtain ⟨k, hk, rfl, hP⟩ := hrel
    by_cases hlt : k < l.length
    · have hKk := HK.out.al (e := e) (c := c) (l := l.take k)
      have HT := Lib.hid (kal_take L e c l k hlt)
      have hblk : wr.heap[b0]? = w.heap[b0]? := hP.kp.block b0 HL.out.lt hnd
      have q0 := (World.cell?_of_block (w := w) (a := ⟨b0, o0 + k * 4, none⟩) hblk).trans (HL.out.c0 k hlt)
      have q1 := (World.cell?_of_block (w := w) (a := ⟨b0, o0 + k * 4 + 1, none⟩) hblk).trans (HL.out.c1 k hlt)
      have q2 := (World.cell?_of_block (w := w) (a := ⟨b0, o0 + k * 4 + 2, none⟩) hblk).trans (HL.out.c2 k hlt)
      have q3 := (World.cell?_of_block (w := w) (a := ⟨b0, o0 + k * 4 + 3, none⟩) hblk).trans (HL.out.c3 k hlt)
      clear hblk
      generalize l[k] = x at q0 q1 q2 q3 HT
      have hb1 := (Below.refl wr.heap.size wr).alloc (Nat.le_refl _) (kco x)
      have hX1 := nb0 wr (kco x)
      have HX1 := Lib.hid hX1
      have HB1 := Lib.hid hb1
      clear hX1 hb1
      go_upto_region 4 with fail
      obtain ⟨bx, hbx⟩ : ∃ bx, bx = wr.heap.size := ⟨_, rfl⟩
      obtain ⟨W1, hW1⟩ : ∃ W1, W1 = wr.alloc (kco x) := ⟨_, rfl⟩
      rw [← hbx] at HX1 ⊢
      rw [← hW1] at HX1 HB1 ⊢
      clear hbx hW1 q0 q1 q2 q3
      go_cut [6, 7] from 8 to 47 (fun s6 s7 W => s6 = .string ⟨#[ltr x.f]⟩ ∧ s7 = .string ⟨#[ltr x.o]⟩ ∧ Below W1.heap.size W1 W)
      case first =>
        have e0 := (Kx.mk (x := x) HX1.out).c
        obtain ⟨_, e1, e2, _⟩ := e0
        have hlx : bx < W1.heap.size := (Array.getElem?_eq_some_iff.1 HX1.out).1
        have p1 := pick_any x.f 6 (.inl rfl)
        have p2 := pick_any x.o 6 (.inl rfl)
        have l1 := pk_lt x.f 6 (by omega)
        have l2 := pk_lt x.o 6 (by omega)
        have g1 := i8w (pk x.f 6) l1
        have g2 := i8w (pk x.o 6) l2
        obtain ⟨g11, g12⟩ := g1
        obtain ⟨g21, g22⟩ := g2
        obtain ⟨v1, v2, v3⟩ := cv3 x.f x.o W1
        obtain ⟨v4, v5, v6⟩ := cv3 x.o x.f W1
        unfold bto at v1 v2 v3 v4 v5 v6
        generalize pk x.f 6 = n1 at *
        generalize pk x.o 6 = n2 at *
        go_region_with (first | (go_at_call_of 27 x.f; refine (p1 _).mono ?_; rintro e w' ⟨rfl, rfl⟩) | (go_at_call_of 27 x.o; refine (p2 _).mono ?_; rintro e w' ⟨rfl, rfl⟩))
        all_goals
          go_wp2_with fail
          go_meet
          case rel => exact ⟨rfl, rfl, ((Below.refl _ _).alloc (Nat.le_refl _) _).alloc (Nat.le_of_lt (by simp)) _ |>.drew⟩
      case rest =>
        obtain ⟨rfl, rfl, hbc⟩ := hcut
        have hXc : Kx bx x wc := ⟨(hbc.block bx (Array.getElem?_eq_some_iff.1 HX1.out).1).trans HX1.out⟩
        obtain ⟨e0, e1, e2, e3⟩ := hXc.c
        have hP2 : Po b mb (kal L e c (l.take k)) e c false 0 w wc := by
          obtain ⟨⟨mb', hd, hm⟩, hkp⟩ := hP
          have hbw := HB1.out.trans (hbc.mono HB1.out.size)
          exact ⟨⟨mb', hd.up hbw, hm⟩, hkp.t (Kp.of hbw)⟩
        obtain ⟨t, f, o, n⟩ := x
        obtain ⟨⟨mb', hd, hmm⟩, hkp⟩ := hP2
        have htot := hKk.tot
        have hlen := hKk.len
        dsimp only at e0 e1 e2 e3
        generalize hLk : kal L e c (l.take k) = Lk at hd hKk HT htot hlen
        have hch : chg e c = c := by
          unfold chg
          split
          · rename_i hh; have := he hh.1; omega
          · rfl
        have HDN : Hid (∀ W L' c', L' = kst Lk e c ⟨t, f, o, n⟩ → c' = c → Po b mb' L' e c' false 0 wc W → Po b mb (kal L e c (l.take (k + 1))) e c false 0 w W) := fun W L' c' h1 h2 hp => by
          subst h2; subst h1
          rw [HT.out]
          exact Po.then hkp hmm hp
        have k1 := wc_same hch
        have k2 : ∀ y, tc Lk e c y = c := fun y => by unfold tc; split <;> first | exact hch | rfl
        have k3 : ∀ y z, mc Lk e c y z = c := fun y z => by unfold mc; split <;> first | exact k2 y | rfl
        have K1 := Lib.hid k1
        have K2 := Lib.hid k2
        have K3 := Lib.hid k3
        have HD := Lib.hid hd
        have HKK := Lib.hid hKk
        clear hLk k1 k2 k3 hch hKk hkp hmm hd hP HL HK HT
        by_cases h0 : t = 0
        · subst h0
          have cP := pick_any n 20 (.inr (.inl rfl))
          have hpl := pk_lt n 20 (by omega)
          have cR := fun W => repeat_any (ltr o) (pk n 20) W (by omega)
          have cW := fun W (hb : Below wc.heap.size wc W) => write_any b mb' Lk e c false 0 [ltr f] (kwr ⟨0, f, o, n⟩) W (HD.out.up hb) hc (by simp) (by have := (lt_kwr ⟨0, f, o, n⟩).len; omega) (by omega) (by omega)
          go_wp2_with fail
          refine (cP _).mono ?_
          rintro y W2 ⟨rfl, rfl⟩
          go_wp2_with fail
          refine (cR _).mono ?_
          rintro y W3 ⟨rfl, hb3⟩
          go_wp2_with fail
          refine (cW _ hb3).mono ?_
          rintro y W4 ⟨rfl, hp4⟩
          have hp5 := HDN.out _ _ _ (by unfold kst; rw [if_pos rfl]) (K1.out [ltr f]) (Po.below hb3 hp4)
          have HP5 := Lib.hid hp5
          clear hp4 hp5 cW cR cP hb3
          go_wp2_with fail
          exact ⟨⟨k + 1, hlt, by go_num, HP5.out⟩, by simp [intOf]; omega⟩
        by_cases h1 : t = 1
        · subst h1
          have cW := sync_any b mb' Lk e c false 0 [ltr f] wc HD.out hc (by simp) (by omega) (by omega)
          go_wp2_with fail
          refine cW.mono ?_
          rintro y W4 ⟨rfl, hp4⟩
          have hp5 := HDN.out _ _ _ (by unfold kst; rw [if_neg (by simp), if_pos rfl]) (K2.out [ltr f]) hp4
          have HP5 := Lib.hid hp5
          clear hp4 hp5 cW
          go_wp2_with fail
          exact ⟨⟨k + 1, hlt, by go_num, HP5.out⟩, by simp [intOf]; omega⟩
        by_cases h2 : t = 2
        · subst h2
          have cW := move_any b mb' Lk e c false 0 [ltr f] [ltr o] wc HD.out hc (by simp) (by simp) (by omega) (by omega)
          go_wp2_with fail
          refine cW.mono ?_
          rintro y W4 ⟨rfl, hp4⟩
          have hp5 := HDN.out _ _ _ (by unfold kst; rw [if_neg (by simp), if_neg (by simp), if_pos rfl]) (K3.out [ltr f] [ltr o]) hp4
          have HP5 := Lib.hid hp5
          clear hp4 hp5 cW
          go_wp2_with fail
          exact ⟨⟨k + 1, hlt, by go_num, HP5.out⟩, by simp [intOf]; omega⟩
        by_cases h3 : t = 3
        · subst h3
          have cW := remove_any b mb' Lk e c false 0 [ltr f] wc HD.out hc (by simp) (by omega) (by omega)
          go_wp2_with fail
          refine cW.mono ?_
          rintro y W4 ⟨rfl, hp4⟩
          have hp5 := HDN.out _ _ _ (by unfold kst; rw [if_neg (by simp), if_neg (by simp), if_neg (by simp), if_pos rfl]) (K2.out [ltr f]) hp4
          have HP5 := Lib.hid hp5
          clear hp4 hp5 cW
          go_wp2_with fail
          exact ⟨⟨k + 1, hlt, by go_num, HP5.out⟩, by simp [intOf]; omega⟩
        · have hp5 := HDN.out wc Lk c (by unfold kst; rw [if_neg h0, if_neg h1, if_neg h2, if_neg h3]) rfl (Po.same HD.out (Kp.refl _ _))
          have HP5 := Lib.hid hp5
          have g0 : (t == 0) = false := by rw [beq_eq_false_iff_ne]; exact h0
          have g1 : (t == 1) = false := by rw [beq_eq_false_iff_ne]; exact h1
          have g2 : (t == 2) = false := by rw [beq_eq_false_iff_ne]; exact h2
          have g3 : (t == 3) = false := by rw [beq_eq_false_iff_ne]; exact h3
          clear h0 h1 h2 h3 hp5
          go_wp2_with fail
          exact ⟨⟨k + 1, hlt, by go_num, HP5.out⟩, by simp [intOf]; omega⟩
    · obtain rfl : k = l.length := by omega
      rw [List.take_length] at hP
      go_wp2
      exact bodyPost_end (results_none rfl _ _ _) rfl ⟨rfl, hP⟩
end Go.Proofs.YtjllnhdampjieaaDoor
