/- A shelf that has one path at most: mathematics; read. -/
import Derived.Test.YtppogjjhippefaaGreatDoorSm
namespace Go.Proofs.YtppogjjhippefaaGreatDoor.Dsk
open Go.RowKit Go.Sort Go.Maps

def aa : List UInt8 := [97, 97]
abbrev cK (p : List UInt8) : List UInt8 := [99, 47] ++ p
abbrev dK (p : List UInt8) : List UInt8 := [100, 47] ++ p
abbrev oK (p : List UInt8) : List UInt8 := [111, 47] ++ p
/-- A setting lies there. -/
def st3 (p D C : List UInt8) : Kv Ent := [(cK p, ⟨C, some C⟩), (dK p, ⟨D, some D⟩), (oK p, ⟨aa, some aa⟩)]
/-- A file lies there. -/
def st2 (p D : List UInt8) : Kv Ent := [(dK p, ⟨D, some D⟩), (oK p, ⟨aa, some aa⟩)]
theorem bb_head {a b : UInt8} {x y : List UInt8} (h : a < b) : bytesBefore (a :: x) (b :: y) = true := by
  unfold bytesBefore
  simp [h]
theorem st3_srt (p D C : List UInt8) : Srt (st3 p D C) := by
  unfold Srt st3
  refine List.pairwise_cons.2 ⟨fun q hq => ?_, List.pairwise_cons.2 ⟨fun q hq => ?_, List.pairwise_cons.2 ⟨fun q hq => (by cases hq), List.Pairwise.nil⟩⟩⟩
  · rcases List.mem_cons.1 hq with rfl | hq
    · exact bb_head (by decide)
    · rcases List.mem_cons.1 hq with rfl | hq
      · exact bb_head (by decide)
      · cases hq
  · rcases List.mem_cons.1 hq with rfl | hq
    · exact bb_head (by decide)
    · cases hq
theorem st2_srt (p D : List UInt8) : Srt (st2 p D) := by
  unfold Srt st2
  refine List.pairwise_cons.2 ⟨fun q hq => ?_, List.pairwise_cons.2 ⟨fun q hq => (by cases hq), List.Pairwise.nil⟩⟩
  rcases List.mem_cons.1 hq with rfl | hq
  · exact bb_head (by decide)
  · cases hq
theorem c_d (p : List UInt8) : cK p ≠ dK p := by simp [cK, dK]
theorem c_o (p : List UInt8) : cK p ≠ oK p := by simp [cK, oK]
theorem d_o (p : List UInt8) : dK p ≠ oK p := by simp [dK, oK]
theorem fr_c (p : List UInt8) : frN ≠ cK p := by simp [frN, cK]
theorem fr_d (p : List UInt8) : frN ≠ dK p := by simp [frN, dK]
theorem fr_o (p : List UInt8) : frN ≠ oK p := by simp [frN, oK]
theorem lk_cons {α : Type} (k x : List UInt8) (a : α) (r : Kv α) : lkL k ((x, a) :: r) = if k = x then some a else lkL k r := by
  unfold lkL
  by_cases e : k = x
  · subst e; simp
  · have : (x == k) = false := by rw [beq_eq_false_iff_ne]; exact fun h => e h.symm
    rw [if_neg e, List.find?_cons, this]
theorem lk_nil {α : Type} (k : List UInt8) : lkL k ([] : Kv α) = none := rfl
theorem st3_lk (p D C k : List UInt8) : lkL k (st3 p D C) = if k = cK p then some ⟨C, some C⟩ else if k = dK p then some ⟨D, some D⟩ else if k = oK p then some ⟨aa, some aa⟩ else none := by
  unfold st3
  rw [lk_cons, lk_cons, lk_cons, lk_nil]
theorem st2_lk (p D k : List UInt8) : lkL k (st2 p D) = if k = dK p then some ⟨D, some D⟩ else if k = oK p then some ⟨aa, some aa⟩ else none := by
  unfold st2
  rw [lk_cons, lk_cons, lk_nil]
theorem ent_k {L : Kv Ent} {k : List UInt8} {a : Ent} (h : lkL k L = some a) : ent k L = a := by unfold ent; rw [h]; rfl
/-- First of all. -/
theorem ptL_new (p t : List UInt8) (o : Option Bool) : ptL [] aa p t true o = st3 p t t := by
  have hcm : cmy true [] p t o = true := by
    unfold cmy chl Cho.cho
    simp [lkL]
  have h1 : ly1 [] aa p = kpL [] (oK p) aa := by
    unfold ly1
    rw [if_neg]
    show ¬ ([] : List UInt8) = aa
    decide
  have s1 : Srt (kpL [] (oK p) aa) := kpL_srt Srt.nil _ _
  have s2 : Srt (kpL (kpL [] (oK p) aa) (dK p) t) := kpL_srt s1 _ _
  unfold ptL
  rw [hcm, h1]
  unfold ly2 ly3
  rw [if_pos rfl, if_pos rfl]
  refine ext_lk (kpL_srt s2 _ _) (st3_srt p t t) fun k => ?_
  rw [kpL_lk s2, kpL_lk s1, kpL_lk Srt.nil, st3_lk, lk_nil]
  by_cases e1 : k = cK p
  · rw [if_pos e1, if_pos e1]
  · rw [if_neg e1, if_neg e1]
    by_cases e4 : k = frN
    · subst e4
      rw [if_pos rfl, if_neg (fr_d p), if_neg (fr_o p)]
    · rw [if_neg e4]
      by_cases e2 : k = dK p
      · rw [if_pos e2, if_pos e2]
      · rw [if_neg e2, if_neg e2, if_neg e4]
        by_cases e3 : k = oK p
        · rw [if_pos e3, if_pos e3]
        · rw [if_neg e3, if_neg e3, if_neg e4]
theorem ptL_new2 (p t : List UInt8) (o : Option Bool) : ptL [] aa p t false o = st2 p t := by
  have hcm : cmy false [] p t o = true := rfl
  have h1 : ly1 [] aa p = kpL [] (oK p) aa := by
    unfold ly1
    rw [if_neg]
    show ¬ ([] : List UInt8) = aa
    decide
  have s1 : Srt (kpL [] (oK p) aa) := kpL_srt Srt.nil _ _
  have s2 : Srt (kpL (kpL [] (oK p) aa) (dK p) t) := kpL_srt s1 _ _
  unfold ptL
  rw [hcm, h1]
  unfold ly2 ly3
  rw [if_pos rfl, if_neg (by simp)]
  refine ext_lk (s2.del _) (st2_srt p t) fun k => ?_
  by_cases e1 : k = cK p
  · rw [e1, lk_del_same, st2_lk, if_neg (c_d p), if_neg (c_o p)]
  · rw [lk_del_other s2 e1, kpL_lk s1, kpL_lk Srt.nil, st2_lk, lk_nil]
    by_cases e2 : k = dK p
    · rw [if_pos e2, if_pos e2]
    · rw [if_neg e2, if_neg e2]
      by_cases e4 : k = frN
      · subst e4
        rw [if_pos rfl, if_neg (fr_o p)]
      · rw [if_neg e4]
        by_cases e3 : k = oK p
        · rw [if_pos e3, if_pos e3]
        · rw [if_neg e3, if_neg e3, if_neg e4]
/-- And again. -/
theorem ptL_again (p D C t : List UInt8) (o : Option Bool) : ptL (st3 p D C) aa p t true o = st3 p (if cmy true (st3 p D C) p t o = true then t else D) t := by
  have s0 := st3_srt p D C
  have h1 : ly1 (st3 p D C) aa p = st3 p D C := by
    unfold ly1
    rw [if_pos]
    rw [ent_k (a := ⟨aa, some aa⟩) (by rw [st3_lk, if_neg (c_o p).symm, if_neg (d_o p).symm, if_pos rfl])]
  unfold ptL
  rw [h1]
  generalize cmy true (st3 p D C) p t o = cm
  unfold ly3
  rw [if_pos rfl]
  have s1 : Srt (ly2 (st3 p D C) p t cm) := by unfold ly2; split; exact kpL_srt s0 _ _; exact s0
  refine ext_lk (kpL_srt s1 _ _) (st3_srt _ _ _) fun k => ?_
  rw [kpL_lk s1, st3_lk]
  by_cases e1 : k = cK p
  · rw [if_pos e1, if_pos e1]
  · rw [if_neg e1, if_neg e1]
    by_cases e4 : k = frN
    · subst e4
      rw [if_pos rfl, if_neg (fr_d p), if_neg (fr_o p)]
    · rw [if_neg e4]
      unfold ly2
      cases cm with
      | true =>
        rw [if_pos rfl, if_pos rfl, kpL_lk s0, st3_lk]
        by_cases e2 : k = dK p
        · rw [if_pos e2, if_pos e2]
        · rw [if_neg e2, if_neg e2, if_neg e4, if_neg e1, if_neg e2]
      | false =>
        simp only [Bool.false_eq_true, if_false]
        rw [st3_lk, if_neg e1]
/-- Somebody changed it. -/
theorem edit3 (p D C t : List UInt8) : kpL (st3 p D C) (dK p) t = st3 p t C := by
  have s0 := st3_srt p D C
  refine ext_lk (kpL_srt s0 _ _) (st3_srt _ _ _) fun k => ?_
  rw [kpL_lk s0, st3_lk, st3_lk]
  by_cases e2 : k = dK p
  · rw [if_pos e2, e2, if_neg (c_d p).symm, if_pos rfl]
  · rw [if_neg e2]
    by_cases e4 : k = frN
    · subst e4
      rw [if_pos rfl, if_neg (fr_c p), if_neg (fr_d p), if_neg (fr_o p)]
    · rw [if_neg e4, if_neg e2, if_neg e2]
theorem ow_nil (n : List UInt8) (hn : n.length ≤ 1000) : Ow [] n none := ⟨hn, .inl ⟨rfl, fun k hk => (by cases hk)⟩⟩
theorem ow_3 (p D C : List UInt8) (hp : p.length ≤ 1000) : Ow (st3 p D C) aa (some p) := by
  refine ⟨by decide, .inr ⟨[cK p, dK p], p, rfl, rfl, fun k hk => ?_, hp, ?_⟩⟩
  · rcases List.mem_cons.1 hk with rfl | hk
    · rfl
    · rcases List.mem_cons.1 hk with rfl | hk
      · rfl
      · cases hk
  · rw [ent_k (a := ⟨aa, some aa⟩) (by rw [st3_lk, if_neg (c_o p).symm, if_neg (d_o p).symm, if_pos rfl])]
theorem ow_2 (p D : List UInt8) (hp : p.length ≤ 1000) : Ow (st2 p D) aa (some p) := by
  refine ⟨by decide, .inr ⟨[dK p], p, rfl, rfl, fun k hk => ?_, hp, ?_⟩⟩
  · rcases List.mem_cons.1 hk with rfl | hk
    · rfl
    · cases hk
  · rw [ent_k (a := ⟨aa, some aa⟩) (by rw [st2_lk, if_neg (d_o p).symm, if_pos rfl])]
theorem tot3 (p D C : List UInt8) : tot nl (st3 p D C) = C.length + D.length + 2 := by
  unfold tot st3 nl aa; simp; omega
/-- The package of the laws. -/
def pk1 (p t : List UInt8) (st : Bool) : Pck := ⟨⟨aa, 0, [49], [], []⟩, [], [], [], [], [], stS st p, [], [(p, t)]⟩
theorem pk1_ok {p : List UInt8} (t : List UInt8) (st : Bool) (hp : pth p = true) : aok (pk1 p t st) = true := by
  have h1 : nmo aa = true := by decide
  have h2 : Vm.rt 0 [49] [] = true := by decide
  have h3 : ask [] = true := by decide
  have h4 : ask (sing []) = true := by decide
  have h5 : pths [] = true := by decide
  have h6 : pths (stS st p) = true := by
    cases st with
    | false => exact h5
    | true => simp [pths, stS, pki, hp]
  have h7 : fk [(p, t)] = true := by simp [fk, fki, hp]
  have h8 : stg [(p, t)] (stS st p) = true := by
    cases st <;> simp [stg, stS]
  unfold aok rok pk1
  simp only [h1, h2, h3, h4, h5, h6, h7, h8]
  rfl
theorem pk1_pg {p t : List UInt8} (st : Bool) (hp : p.length ≤ 60) (ht : t.length ≤ 500) : Pg (pk1 p t st) := by
  have hx : Asx [] := ⟨by simp, fun _ h => (by cases h), fun _ h => (by cases h), fun _ h => (by cases h)⟩
  refine ⟨by simp [pk1, aa], by simp [pk1], by simp [pk1], by simp [pk1], by simp [pk1], hx, hx, hx, hx, hx, hx, ?_, by simp [pk1, txs], ?_⟩
  · cases st with
    | false => simp [txs, pk1, stS]
    | true => simp [txs, pk1, stS]; omega
  · simp [fls, pk1]; omega
set_option maxRecDepth 100000 in
theorem read1_any (W : World) (hT : Tab W) : Calls Tryz.prog 31 #[.string ⟨#[49]⟩] W fun x W2 => x = .returned (.agg #[.int .i64 0, .string ⟨#[49]⟩, .string ⟨#[]⟩]) ∧ Below W.heap.size W W2 := by
  have bA := (Below.refl W.heap.size W).alloc (Nat.le_refl _) (.cells #[.int .i64 0, .string ⟨#[]⟩, .string ⟨#[]⟩] 37)
  have cP := parse_any [49] _ (tab_on hT bA)
  rw [show pvVal (Vm.pv [49]) = .tuple #[.agg #[.int .i64 0, .string ⟨#[49]⟩, .string ⟨#[]⟩], .nilIface] from by rfl] at cP
  have HB := Lib.hid bA
  clear hT bA
  go_enter Tryz.func31, Tryz.ntmps31
  go_wp2_with fail
  refine cP.mono ?_
  rintro x W1 ⟨rfl, b1⟩
  have b2 := b1.alloc b1.size (.cells #[.int .i64 0, .string ⟨#[49]⟩, .string ⟨#[]⟩] 37)
  have hx := nb0 W (.cells #[.int .i64 0, .string ⟨#[]⟩, .string ⟨#[]⟩] 37)
  have hx1 := (b1.block _ (Array.getElem?_eq_some_iff.1 hx).1).trans hx
  have r0 : W1.cell? ⟨W.heap.size, 0, none⟩ = some (.int .i64 0) := by simp [World.cell?, hx1]
  have r1 : W1.cell? ⟨W.heap.size, 1, none⟩ = some (.string ⟨#[]⟩) := by simp [World.cell?, hx1]
  have r2 : W1.cell? ⟨W.heap.size, 2, none⟩ = some (.string ⟨#[]⟩) := by simp [World.cell?, hx1]
  have hf : ∀ j, W1.frozen? ⟨W.heap.size, j, none⟩ = false := fun j => by simp [World.frozen?, hx1]
  have hlt : W.heap.size < W1.heap.size := (Array.getElem?_eq_some_iff.1 hx1).1
  have hne : W1.heap.size ≠ W.heap.size := by omega
  have HB1 := Lib.hid (HB.out.trans (b1.mono HB.out.size))
  clear cP b1 b2 hx hx1
  go_wp2
  have b3 := ((HB1.out.setCell (p := ⟨W.heap.size, 0, none⟩) (Nat.le_refl _) (.int .i64 0)).setCell (p := ⟨W.heap.size, 1, none⟩) (Nat.le_refl _) (.string ⟨#[49]⟩)).setCell (p := ⟨W.heap.size, 2, none⟩) (Nat.le_refl _) (.string ⟨#[]⟩)
  exact bodyPost_ret (v := .agg #[.int .i64 0, .string ⟨#[49]⟩, .string ⟨#[]⟩]) (by simp [results, Tryz.results31, go_sem, r0, r1, r2, hlt]) rfl ⟨rfl, b3.alloc b3.size _⟩
end Go.Proofs.YtppogjjhippefaaGreatDoor.Dsk
namespace Go.Proofs.YtppogjjhippefaaGreatDoor.Dsk
open Go.RowKit Go.Sort Go.Maps

theorem sm_ba (x y : List UInt8) : Cho.sm (some (ba x)) (some (ba y)) = decide (x = y) := by
  show ((ba x).toList == (ba y).toList) = _
  have h : ∀ z : List UInt8, (ba z).toList = z := fun z => by
    unfold ba
    simp
  rw [h, h, Bool.eq_iff_iff]
  simp
theorem chl_3 (p D C t : List UInt8) : chl (st3 p D C) p t = if D = t then 1 else if C = t then 1 else if C = D then 0 else 2 := by
  have h1 : lkL (cK p) (st3 p D C) = some ⟨C, some C⟩ := by rw [st3_lk, if_pos rfl]
  have h2 : lkL (dK p) (st3 p D C) = some ⟨D, some D⟩ := by rw [st3_lk, if_neg (c_d p).symm, if_pos rfl]
  unfold chl
  rw [h1, h2]
  unfold Cho.cho
  simp only [Option.map_some, sm_ba]
  simp
/-- What comes of a round: nothing was changed, so it comes; it was changed, and nobody says yes, so it stays. -/
theorem step3 (p D C t : List UInt8) (y : Bool) : (C = D → (if cmy true (st3 p D C) p t (some y) = true then t else D) = t) ∧ (C ≠ D → y = false → (if cmy true (st3 p D C) p t (some y) = true then t else D) = D) := by
  have hc : cmy true (st3 p D C) p t (some y) = (decide (chl (st3 p D C) p t = 0) || (decide (chl (st3 p D C) p t = 2) && y)) := rfl
  rw [hc, chl_3]
  refine ⟨fun h => ?_, fun h hy => ?_⟩
  · subst h
    by_cases e : C = t
    · subst e; simp
    · simp [e]
  · subst hy
    by_cases e : D = t
    · subst e; simp
    · by_cases e2 : C = t
      · simp [e, e2]
      · simp [e, e2, h]
end Go.Proofs.YtppogjjhippefaaGreatDoor.Dsk
namespace Go.Proofs.YtppogjjhippefaaGreatDoor.Dsk
open Go.RowKit Go.Sort Go.Maps

theorem pz1 {W : World} {p t : List UInt8} {st : Bool} {vS : Value} {fb fc : Nat} (hS : Ss W vS (stS st p)) (hF : Fr W fb 0 [(p, t)]) (hc : 1 ≤ fc) : Pz W (pk1 p t st) (.slice none 0 0) (.slice none 0 0) (.slice none 0 0) (.slice none 0 0) (.slice none 0 0) (.slice none 0 0) vS (.slice none 0 0) (.slice (some ⟨fb, 0, none⟩) 1 fc) :=
  ⟨⟨.inl ⟨rfl, _, _, rfl⟩⟩, ⟨.inl ⟨rfl, _, _, rfl⟩⟩, ⟨.inl ⟨rfl, _, _, rfl⟩⟩, ⟨.inl ⟨rfl, _, _, rfl⟩⟩, ⟨.inl ⟨rfl, _, _, rfl⟩⟩, ⟨.inl ⟨rfl, _, _, rfl⟩⟩, hS, ⟨.inl ⟨rfl, _, _, rfl⟩⟩, ⟨.inr ⟨fb, 0, fc, rfl, hc, hF⟩⟩⟩
def bx : List UInt8 := [98, 105, 110, 47, 120]
set_option maxRecDepth 100000 in
set_option maxHeartbeats 4000000 in
theorem shelved_any (W : World) (hT : Tab W) (hM : MaxN W) : Calls Tryz.prog 21 #[] W fun x W2 => x = .returned (.bool true) ∧ Below W.heap.size W W2 := by
  have cO := over_any W
  have HT := Lib.hid hT
  have HM := Lib.hid hM
  clear hT hM
  go_enter Tryz.func21, Tryz.ntmps21
  go_wp2_with fail
  refine cO.mono ?_
  rintro x W1 ⟨s, rfl, hJ⟩
  have cR := read1_any W1 (tab_on HT.out hJ.bl)
  obtain ⟨d, hd⟩ : ∃ d, d = W.heap.size := ⟨_, rfl⟩
  rw [← hd] at hJ
  have HJ := Lib.hid hJ
  clear cO hJ hd
  go_wp2_with fail
  refine cR.mono ?_
  rintro x W2 ⟨rfl, b2⟩
  have hJ2 := HJ.out.up b2
  have bA := (Below.refl W2.heap.size W2).alloc (Nat.le_refl _) (.cells #[.string ⟨bx.toArray⟩, .string ⟨#[97]⟩] 73)
  have hJ3 := hJ2.zone bA
  have hx := nb0 W2 (.cells #[.string ⟨bx.toArray⟩, .string ⟨#[97]⟩] 73)
  have hFr : Fr (W2.alloc (.cells #[.string ⟨bx.toArray⟩, .string ⟨#[97]⟩] 73)) W2.heap.size 0 [(bx, [97])] := ⟨by simp, fun i hi => by
    obtain rfl : i = 0 := by simpa using hi
    simp, fun i hi => by
    obtain rfl : i = 0 := by simpa using hi
    simp⟩
  have hsz := hJ2.bl.size
  have hS : Sl W2.heap.size (W2.alloc (.cells #[.string ⟨bx.toArray⟩, .string ⟨#[97]⟩] 73)) (.slice none 0 0) (stS false bx) := ⟨⟨.inl ⟨rfl, _, _, rfl⟩⟩, fun b o n c h _ => by cases h⟩
  have hbl3 := hJ3.bl
  have cP := put_one (L := []) (lo := W2.heap.size) hJ3 bA.size hsz (pk1 bx [97] false) (.slice none 0 0) (.slice none 0 0) (.slice none 0 0) (.slice none 0 0) (.slice none 0 0) (.slice none 0 0) (.slice none 0 0) (.slice none 0 0) (.slice none 0 0) bx [97] false none 67 W2.heap.size 0 1 none
    (pz1 hS.ss hFr (by omega)) (pk1_pg false (by decide) (by decide)) (tab_on HT.out hbl3) (HM.out.on hbl3) (pk1_ok [97] false (by decide)) rfl (by omega) (Nat.le_refl _) hFr hS ⟨.inl ⟨rfl, rfl⟩⟩ (ow_nil aa (by decide)) (by rw [show (pk1 bx [97] false).o.n = aa from rfl, ptL_new2]; exact ow_2 bx [97] (by decide)) (by decide) (by decide) (by decide) (by decide) (by decide) (by rw [show (pk1 bx [97] false).o.n = aa from rfl, ptL_new2]; decide)
  rw [show (pk1 bx [97] false).o.n = aa from rfl, ptL_new2] at cP
  clear cR b2 hJ2 bA hJ3 hx hFr hsz hS hbl3
  go_wp2_with fail
  refine cP.mono ?_
  rintro x W3 ⟨rfl, _, hJ3⟩
  have cD := sread_any hJ3 bx (by decide)
  rw [show (ent ([100, 47] ++ bx) (st2 bx [97])).now = [97] from rfl, show evv (rdc ([100, 47] ++ bx) (st2 bx [97])) = .nilIface from rfl] at cD
  have HJ3 := Lib.hid hJ3
  clear cP hJ3 HJ
  go_wp2_with fail
  refine cD.mono ?_
  rintro x W4 ⟨rfl, b4⟩
  have cW := owner_any (HJ3.out.up b4) bx (by decide)
  rw [show (ent ([111, 47] ++ bx) (st2 bx [97])).now = [97, 97] from rfl] at cW
  have HJ4 := Lib.hid (HJ3.out.up b4)
  clear cD b4 HJ3
  go_wp2_with fail
  refine cW.mono ?_
  rintro x W5 ⟨rfl, b5⟩
  have cV := owner_any (HJ4.out.up b5) [98, 105, 110, 47, 121] (by decide)
  rw [show (ent ([111, 47] ++ [98, 105, 110, 47, 121]) (st2 bx [97])).now = [] from rfl] at cV
  have HJ5 := Lib.hid (HJ4.out.up b5)
  clear cW b5 HJ4
  go_wp2_with fail
  refine cV.mono ?_
  rintro x W6 ⟨rfl, b6⟩
  have HB := Lib.hid (HJ5.out.up b6).bl
  clear cV b6 HJ5
  go_wp2
  go_ret
  exact ⟨rfl, HB.out⟩
end Go.Proofs.YtppogjjhippefaaGreatDoor.Dsk
