/- A shelf: forget, Drop, Owners, whatever lies there. -/
import Derived.Test.YtlldfmnoidndmaaGreatDoorOz
import Derived.Test.YtlldfmnoidndmaaGreatDoorSg
import Derived.Test.YtlldfmnoidndmaaGreatDoorDx
namespace Go.Proofs.YtlldfmnoidndmaaGreatDoor.Dsk
open Go.RowKit Go.Sort Go.Maps

/-- Nothing lies there any more, and it is nobody's. -/
def frgt (L : Kv Ent) (p : List UInt8) : Kv Ent := delL ([111, 47] ++ p) (delL ([100, 47] ++ p) (delL ([99, 47] ++ p) L))
theorem tot_del_le {L : Kv Ent} (h : Srt L) (k : List UInt8) : tot nl (delL k L) ≤ tot nl L := by
  have := tot_del nl k h
  omega
theorem frgt_all {L : Kv Ent} (h : Srt L) (p : List UInt8) : Srt (frgt L p) ∧ tot nl (frgt L p) ≤ tot nl L ∧ (frgt L p).length ≤ L.length := by
  unfold frgt
  have h1 := h.del ([99, 47] ++ p)
  have h2 := h1.del ([100, 47] ++ p)
  have t1 := tot_del_le h ([99, 47] ++ p)
  have t2 := tot_del_le h1 ([100, 47] ++ p)
  have t3 := tot_del_le h2 ([111, 47] ++ p)
  have l1 := len_del (L := L) ([99, 47] ++ p)
  have l2 := len_del (L := delL ([99, 47] ++ p) L) ([100, 47] ++ p)
  have l3 := len_del (L := delL ([100, 47] ++ p) (delL ([99, 47] ++ p) L)) ([111, 47] ++ p)
  exact ⟨h2.del _, by omega, by omega⟩
def hdk : Nat → List UInt8
  | 0 => [99, 47]
  | 1 => [100, 47]
  | _ => [111, 47]
theorem hdk_len (k : Nat) : (hdk k).length = 2 := by
  unfold hdk
  split <;> rfl
def fgk (L : Kv Ent) (p : List UInt8) : Nat → Kv Ent
  | 0 => L
  | k + 1 => delL (hdk k ++ p) (fgk L p k)
theorem fgk_all {L : Kv Ent} (h : Srt L) (p : List UInt8) : ∀ k, Srt (fgk L p k) ∧ tot nl (fgk L p k) ≤ tot nl L ∧ (fgk L p k).length ≤ L.length
  | 0 => ⟨h, Nat.le_refl _, Nat.le_refl _⟩
  | k + 1 => by
    obtain ⟨h1, h2, h3⟩ := fgk_all h p k
    have t := tot_del_le h1 (hdk k ++ p)
    have l := len_del (L := fgk L p k) (hdk k ++ p)
    exact ⟨h1.del _, by show tot nl (delL _ _) ≤ _; omega, by show (delL _ _).length ≤ _; omega⟩
section
variable {w W : World} {s d : Nat} {Z : Nat → Prop} {L : Kv Ent}
set_option maxRecDepth 100000 in
set_option maxHeartbeats 2000000 in
theorem forget_any (h : SJ w s d L Z W) (p : List UInt8) (hp : p.length ≤ 900) (hT : tot nl L ≤ 990000) (hn : L.length ≤ 4900) : Calls Tryz.prog 60 #[.pointer (some ⟨s, 0, none⟩), .string ⟨p.toArray⟩] W fun x W2 => x = .returned .nilIface ∧ Zn Z W W2 ∧ SJ w s d (frgt L p) Z W2 := by
  have bA := (Below.refl W.heap.size W).alloc (Nat.le_refl _) (.cells #[.string ⟨#[99, 47]⟩, .string ⟨#[100, 47]⟩, .string ⟨#[111, 47]⟩] 9)
  have x0 := nb0 W (.cells #[.string ⟨#[99, 47]⟩, .string ⟨#[100, 47]⟩, .string ⟨#[111, 47]⟩] 9)
  have HS := Lib.hid (fun k => fgk_all h.srt p k)
  have HJ := Lib.hid (h.add bA)
  have HB := Lib.hid (Zn.below bA h.hs)
  have HX := Lib.hid x0
  clear h bA x0
  go_enter Tryz.func60, Tryz.ntmps60
  go_wp2_with fail
  obtain ⟨g, hg⟩ : ∃ g, g = W.heap.size := ⟨_, rfl⟩
  rw [← hg] at HX HJ
  rw [← hg]
  generalize hV : W.alloc (.cells #[.string ⟨#[99, 47]⟩, .string ⟨#[100, 47]⟩, .string ⟨#[111, 47]⟩] 9) = V at HJ HB HX ⊢
  have hgl : g < V.heap.size := (Array.getElem?_eq_some_iff.1 HX.out).1
  have HC : Hid (∀ k, k < 3 → V.cell? ⟨g, k, none⟩ = some (.string ⟨(hdk k).toArray⟩)) := fun k hk => by
    match k, hk with
    | 0, _ => simp [World.cell?, HX.out, hdk]
    | 1, _ => simp [World.cell?, HX.out, hdk]
    | 2, _ => simp [World.cell?, HX.out, hdk]
  have HZg : Hid (Zu Z g V.heap.size g) := .inr ⟨Nat.le_refl _, hgl⟩
  clear hg hV HX
  go_loopw [10] (fun iv Y => ∃ k : Nat, k ≤ 3 ∧ iv = .int .i64 k ∧ Hid (Zn (Zu Z g V.heap.size) V Y ∧ SJ w s d (fgk L p k) (Zu Z g V.heap.size) Y)) (fun iv _ => 3 - (intOf iv).toNat)
  case atStart => exact ⟨0, by omega, rfl, Zn.refl _ _, HJ.out⟩
  case round =>
    obtain ⟨k, hk, rfl, HK⟩ := hrel
    by_cases hlt : k < 3
    · have c0 := (HK.out.1.cell HZg.out (i := k)).trans (HC.out k hlt)
      have hgr : g < wr.heap.size := HK.out.2.hs g HZg.out
      have hh := hdk_len k
      have ha := HS.out k
      have cL := lose_any HK.out.2 (hdk k ++ p) (by simp; omega) (by omega) (by omega)
      rw [← cat2] at cL
      have HN : Hid (∀ Y2, Zn (Zu Z g V.heap.size) wr Y2 → SJ w s d (delL (hdk k ++ p) (fgk L p k)) (Zu Z g V.heap.size) Y2 → Zn (Zu Z g V.heap.size) V Y2 ∧ SJ w s d (fgk L p (k + 1)) (Zu Z g V.heap.size) Y2) := fun Y2 hz hJ => ⟨HK.out.1.trans hz, hJ⟩
      generalize delL (hdk k ++ p) (fgk L p k) = LL at cL HN
      generalize hdk k = hd at c0 hh cL
      clear HK ha
      go_wp2_with fail
      refine cL.mono ?_
      rintro x Y2 ⟨rfl, hz, hJ⟩
      have HF := Lib.hid (HN.out Y2 hz hJ)
      clear HN hz hJ cL c0
      go_wp2_with fail
      exact ⟨⟨k + 1, by omega, by go_num, HF⟩, by simp [intOf]; omega⟩
    · obtain rfl : k = 3 := by omega
      have HF : Hid (Zn Z W wr ∧ SJ w s d (frgt L p) Z wr) := ⟨HB.out.trans (HK.out.1.mono fun _ => .inl), HK.out.2.less fun _ => .inl⟩
      clear HK
      go_wp2
      go_ret
      exact ⟨rfl, HF.out.1, HF.out.2⟩
/-- What Drop does with one. -/
def dst (all : Bool) (L : Kv Ent) (p : List UInt8) : Kv Ent := if all = true then frgt L p else if (lkL ([99, 47] ++ p) L).isSome = true then L else frgt L p
def drL (L : Kv Ent) (n : List UInt8) (all : Bool) : Kv Ent := (pts L n).foldl (dst all) L
theorem dst_all {L : Kv Ent} (h : Srt L) (all : Bool) (p : List UInt8) : Srt (dst all L p) ∧ tot nl (dst all L p) ≤ tot nl L ∧ (dst all L p).length ≤ L.length := by
  unfold dst
  split
  · exact frgt_all h p
  · split
    · exact ⟨h, Nat.le_refl _, Nat.le_refl _⟩
    · exact frgt_all h p
theorem dsts_all {L : Kv Ent} (h : Srt L) (all : Bool) : ∀ ps : List (List UInt8), Srt (ps.foldl (dst all) L) ∧ tot nl (ps.foldl (dst all) L) ≤ tot nl L ∧ (ps.foldl (dst all) L).length ≤ L.length := fun ps => by
  induction ps generalizing L with
  | nil => exact ⟨h, Nat.le_refl _, Nat.le_refl _⟩
  | cons p ps ih =>
    obtain ⟨h1, h2, h3⟩ := dst_all h all p
    obtain ⟨k1, k2, k3⟩ := ih h1
    exact ⟨k1, Nat.le_trans k2 h2, Nat.le_trans k3 h3⟩
theorem Tx.low {B B' : Nat} {W : World} {v : Value} {l : List (List UInt8)} (h : Tx B W v l) (hb : B' ≤ B) : Tx B' W v l := by
  rcases h.is with h | ⟨b, c, h1, h0, h2⟩
  · exact ⟨.inl h⟩
  · exact ⟨.inr ⟨b, c, h1, Nat.le_trans hb h0, h2⟩⟩
/-- Texts of a row that lies in a zone. -/
theorem own_tx {W : World} {B : Nat} {v : Value} {l : List (List UInt8)} (h : W.ownsRow B 9 1 v l.length (l.map fun p => Value.string ⟨p.toArray⟩)) : ∃ A c, v = .slice A l.length c ∧ ∀ k (hk : k < l.length), ∃ g, A = some ⟨g, 0, none⟩ ∧ B ≤ g ∧ g < W.heap.size ∧ W.cell? ⟨g, k, none⟩ = some (.string ⟨l[k].toArray⟩) := by
  rcases h.2 with ⟨rfl, hl⟩ | ⟨g, cap, cur, rfl, hb, hgg, _⟩
  · exact ⟨none, 0, by rw [show l.length = 0 from hl], fun k hk => absurd hk (by rw [show l.length = 0 from hl]; exact Nat.not_lt_zero _)⟩
  · refine ⟨_, _, rfl, fun k hk => ⟨g, rfl, hb, (Array.getElem?_eq_some_iff.1 hgg).1, ?_⟩⟩
    have := World.ownsRow.cellAt h k (by omega)
    simpa [hk] using this
theorem mem_pts {L : Kv Ent} (hS : Srt L) {n p : List UInt8} : p ∈ pts L n ↔ ∃ e, lkL ([111, 47] ++ p) L = some e ∧ e.now = n := by
  unfold pts ptf
  rw [List.mem_filter, List.mem_map]
  constructor
  · rintro ⟨⟨k, hk, rfl⟩, he⟩
    rw [List.mem_filter] at hk
    have hd := isO_drop hk.2
    obtain ⟨⟨k', e⟩, hm, rfl⟩ := List.mem_map.1 hk.1
    have hl := (lk_iff hS).2 hm
    dsimp only at hd hl he
    rw [hd] at hl
    refine ⟨e, hl, ?_⟩
    rw [ent_lk hl] at he
    exact beq_iff_eq.1 he
  · rintro ⟨e, hl, he⟩
    refine ⟨⟨[111, 47] ++ p, ?_, rfl⟩, ?_⟩
    · rw [List.mem_filter]
      exact ⟨List.mem_map.2 ⟨_, (lk_iff hS).1 hl, rfl⟩, isO_o p⟩
    · rw [ent_lk hl]
      exact beq_iff_eq.2 he
set_option maxRecDepth 100000 in
set_option maxHeartbeats 4000000 in
theorem drop_gen (h : SJ w s d L Z W) (hO : Osm L) (n : List UInt8) (hnl : n.length ≤ 1000) (all : Bool) (hps : ∀ p ∈ pts L n, p.length ≤ 900) (hT : tot nl L ≤ 990000) (hn : L.length ≤ 4900) : Calls Tryz.prog 16 #[.pointer (some ⟨s, 0, none⟩), .string ⟨n.toArray⟩, .bool all] W fun x W2 => x = .returned .nilIface ∧ Zn Z W W2 ∧ SJ w s d (drL L n all) Z W2 := by
  have cP := paths_gen h hn hO n hnl
  have HS := Lib.hid (fun ps => dsts_all h.srt all ps)
  have HJ := Lib.hid h
  have HD : Hid (drL L n all = (pts L n).foldl (dst all) L) := rfl
  obtain ⟨DL, hDL⟩ : ∃ DL, DL = drL L n all := ⟨_, rfl⟩
  rw [← hDL] at HD ⊢
  have hpl : (pts L n).length ≤ 4900 := Nat.le_trans (ptf_len L _ n) (by rw [List.length_map]; exact hn)
  generalize pts L n = ps at cP hps HD hpl
  have HPS := Lib.hid hps
  clear h hO hps hDL
  go_enter Tryz.func16, Tryz.ntmps16
  go_wp2_with fail
  refine cP.mono ?_
  rintro x V ⟨v, rfl, hr, b1⟩
  obtain ⟨A, c, rfl, hA⟩ := own_tx hr
  have HA := Lib.hid hA
  have HJ1 := Lib.hid (HJ.out.add b1)
  have HB := Lib.hid (Zn.below b1 HJ.out.hs)
  obtain ⟨g0, hg0⟩ : ∃ g0, g0 = W.heap.size := ⟨_, rfl⟩
  rw [← hg0] at HJ1 HA
  clear hr hA b1 cP HJ hg0
  go_wp2_with fail
  go_loopw [14] (fun iv Y => ∃ k : Nat, k ≤ ps.length ∧ iv = .int .i64 k ∧ Hid (Zn (Zu Z g0 V.heap.size) V Y ∧ SJ w s d ((ps.take k).foldl (dst all) L) (Zu Z g0 V.heap.size) Y)) (fun iv _ => ps.length - (intOf iv).toNat)
  case atStart => exact ⟨0, Nat.zero_le _, rfl, Zn.refl _ _, HJ1.out⟩
  case round =>
    obtain ⟨k, hk, rfl, HK⟩ := hrel
    by_cases hlt : k < ps.length
    · obtain ⟨g, rfl, hg1, hg2, hgc⟩ := HA.out k hlt
      have hgz : Zu Z g0 V.heap.size g := .inr ⟨by omega, hg2⟩
      have c0 := (HK.out.1.cell hgz (i := k)).trans hgc
      have hgr : g < wr.heap.size := HK.out.2.hs g hgz
      have ha := HS.out (ps.take k)
      have hpk := HPS.out _ (List.getElem_mem hlt)
      have HFT : Hid ((ps.take (k + 1)).foldl (dst all) L = dst all ((ps.take k).foldl (dst all) L) ps[k]) := fold_take _ _ _ _ hlt
      have HJN : Hid (∀ Y2, Zn (Zu Z g0 V.heap.size) wr Y2 → SJ w s d (dst all ((ps.take k).foldl (dst all) L) ps[k]) (Zu Z g0 V.heap.size) Y2 → Zn (Zu Z g0 V.heap.size) V Y2 ∧ SJ w s d ((ps.take (k + 1)).foldl (dst all) L) (Zu Z g0 V.heap.size) Y2) := fun Y2 hz hJ => ⟨HK.out.1.trans hz, by rw [HFT.out]; exact hJ⟩
      generalize (ps.take k).foldl (dst all) L = Lk at HK ha HJN
      generalize ps[k] = p at c0 hpk HJN hgc
      have cF := fun Y (hb : Below wr.heap.size wr Y) => forget_any (HK.out.2.up hb) p hpk (by omega) (by omega)
      have HCF := Lib.hid cF
      have cS := setting_any HK.out.2 p (by omega)
      have HKs := Lib.hid HK.out.2.hs
      have HKJ := Lib.hid HK.out.2
      clear HK ha HFT hgc cF
      cases all with
      | true =>
        have cF := HCF.out wr (Below.refl _ _)
        clear HCF cS
        go_wp2_with fail
        refine cF.mono ?_
        rintro x Y2 ⟨rfl, hz, hJ⟩
        have HF := Lib.hid (HJN.out Y2 hz (by unfold dst; rw [if_pos rfl]; exact hJ))
        clear HJN hz hJ cF c0
        go_wp2_with fail
        exact ⟨⟨k + 1, by omega, by go_num, HF⟩, by simp [intOf]; omega⟩
      | false =>
        cases hq : (lkL ([99, 47] ++ p) Lk).isSome with
        | true =>
          have HQ := Lib.hid hq
          rw [hq] at cS
          clear hq HCF
          go_wp2_with fail
          refine cS.mono ?_
          rintro x Y2 ⟨rfl, b2⟩
          have HF := Lib.hid (HJN.out Y2 (Zn.below b2 HKs.out) (by unfold dst; rw [if_neg (by simp), if_pos HQ.out]; exact HKJ.out.up b2))
          clear HJN cS c0 b2
          go_wp2_with fail
          exact ⟨⟨k + 1, by omega, by go_num, HF⟩, by simp [intOf]; omega⟩
        | false =>
          have HQ := Lib.hid hq
          rw [hq] at cS
          clear hq
          go_wp2_with fail
          refine cS.mono ?_
          rintro x Y1 ⟨rfl, b2⟩
          have cF := HCF.out Y1 b2
          have HZ2 := Lib.hid (Zn.below b2 HKs.out)
          clear HCF cS c0 b2
          go_wp2_with fail
          refine cF.mono ?_
          rintro x Y2 ⟨rfl, hz, hJ⟩
          have HF := Lib.hid (HJN.out Y2 (HZ2.out.trans hz) (by unfold dst; rw [if_neg (by simp), if_neg (by rw [HQ.out]; simp)]; exact hJ))
          clear HJN hz hJ cF
          go_wp2_with fail
          exact ⟨⟨k + 1, by omega, by go_num, HF⟩, by simp [intOf]; omega⟩
    · obtain rfl : k = ps.length := by omega
      have HF : Hid (Zn Z W wr ∧ SJ w s d DL Z wr) := ⟨HB.out.trans (HK.out.1.mono fun _ => .inl), by
        rw [HD.out]
        have := HK.out.2
        rw [List.take_length] at this
        exact this.less fun _ => .inl⟩
      clear HK
      go_wp2
      go_ret
      exact ⟨rfl, HF.out.1, HF.out.2⟩
/-- Whose there are paths: in order. -/
def owM : Kv Ent → Kv Unit → Kv Unit
  | [], A => A
  | kv :: r, A => owM r (if isO kv.1 = true then putL kv.2.now () A else A)
theorem owM_srt : ∀ (r : Kv Ent) {A : Kv Unit}, Srt A → Srt (owM r A)
  | [], _, h => h
  | kv :: r, A, h => by
    unfold owM
    refine owM_srt r ?_
    split
    · exact h.put _ _
    · exact h
theorem owM_lk (n : List UInt8) : ∀ (r : Kv Ent) {A : Kv Unit}, Srt A → (lkL n (owM r A) = some () ↔ lkL n A = some () ∨ ∃ kv ∈ r, isO kv.1 = true ∧ kv.2.now = n)
  | [], A, _ => by simp [owM]
  | kv :: r, A, h => by
    unfold owM
    by_cases e : isO kv.1 = true
    · rw [if_pos e, owM_lk n r (h.put _ _)]
      by_cases en : n = kv.2.now
      · subst en
        rw [lk_put_same h]
        simp [e]
      · rw [lk_put_other h en]
        constructor
        · rintro (h1 | ⟨x, h1, h2⟩)
          · exact .inl h1
          · exact .inr ⟨x, List.mem_cons_of_mem _ h1, h2⟩
        · rintro (h1 | ⟨x, h1, h2⟩)
          · exact .inl h1
          · rcases List.mem_cons.1 h1 with rfl | h1
            · exact absurd h2.2.symm en
            · exact .inr ⟨x, h1, h2⟩
    · rw [if_neg e, owM_lk n r h]
      constructor
      · rintro (h1 | ⟨x, h1, h2⟩)
        · exact .inl h1
        · exact .inr ⟨x, List.mem_cons_of_mem _ h1, h2⟩
      · rintro (h1 | ⟨x, h1, h2⟩)
        · exact .inl h1
        · rcases List.mem_cons.1 h1 with rfl | h1
          · exact absurd h2.1 e
          · exact .inr ⟨x, h1, h2⟩
def ows (L : Kv Ent) : List (List UInt8) := (owM L []).map (·.1)
theorem pts_ne {L : Kv Ent} (hS : Srt L) {n : List UInt8} : pts L n ≠ [] ↔ ∃ kv ∈ L, isO kv.1 = true ∧ kv.2.now = n := by
  constructor
  · intro h
    obtain ⟨p, hp⟩ := List.exists_mem_of_ne_nil _ h
    obtain ⟨e, h1, h2⟩ := (mem_pts hS).1 hp
    exact ⟨(_, e), (lk_iff hS).1 h1, isO_o p, h2⟩
  · rintro ⟨⟨k, e⟩, h1, h2, h3⟩ h
    have hk := isO_drop h2
    dsimp only at hk
    have h4 := (lk_iff hS).2 h1
    rw [hk] at h4
    have := (mem_pts hS).2 ⟨e, h4, h3⟩
    rw [h] at this
    cases this
theorem unit_lk {A : Kv Unit} {n : List UInt8} : lkL n A = none ↔ ¬ lkL n A = some () := by
  cases h : lkL n A <;> simp
theorem ows_key {L : Kv Ent} (hS : Srt L) {M : Kv Value} (hM : Srt M) (hk : ∀ n, lkL n M = none ↔ pts L n = []) : M.map (·.1) = ows L := by
  have h1 : Srt (M.map fun p => (p.1, ())) := List.pairwise_map.2 (hM.imp fun h => h)
  have h2 : ∀ n, lkL n (M.map fun p => (p.1, ())) = (lkL n M).map fun _ => () := fun n => by
    unfold lkL
    rw [List.find?_map, Option.map_map, Option.map_map]
    rfl
  have h3 : (M.map fun p => (p.1, ())) = owM L [] := ext_lk h1 (owM_srt L Srt.nil) fun n => by
    rw [h2]
    cases hl : lkL n M with
    | none =>
      have := (hk n).1 hl
      symm
      rw [Option.map_none, unit_lk, owM_lk n L Srt.nil]
      rintro (h | h)
      · cases h
      · exact (pts_ne hS).2 h this
    | some v =>
      symm
      rw [Option.map_some, owM_lk n L Srt.nil]
      refine .inr ((pts_ne hS).1 fun h => ?_)
      rw [(hk n).2 h] at hl
      cases hl
  unfold ows
  rw [← h3, List.map_map]
  rfl
theorem ows_mem {L : Kv Ent} (hS : Srt L) {n : List UInt8} : n ∈ ows L ↔ pts L n ≠ [] := by
  rw [pts_ne hS]
  have := owM_lk n L Srt.nil
  rw [lk_iff (owM_srt L Srt.nil)] at this
  constructor
  · intro h
    obtain ⟨⟨k, u⟩, h1, rfl⟩ := List.mem_map.1 h
    rcases this.1 h1 with h2 | h2
    · cases h2
    · exact h2
  · intro h
    exact List.mem_map.2 ⟨(n, ()), this.2 (.inr h), rfl⟩
theorem ows_len (L : Kv Ent) : (ows L).length ≤ L.length := by
  have : ∀ (r : Kv Ent) (A : Kv Unit), (owM r A).length ≤ A.length + r.length := fun r => by
    induction r with
    | nil => intro A; exact Nat.le_refl _
    | cons kv r ih =>
      intro A
      unfold owM
      refine Nat.le_trans (ih _) ?_
      split
      · have := len_put A kv.2.now ()
        rw [List.length_cons]; omega
      · rw [List.length_cons]; omega
  have := this L []
  unfold ows
  rw [List.length_map]
  simpa using this
set_option maxRecDepth 100000 in
set_option maxHeartbeats 1600000 in
theorem owners_gen (h : SJ w s d L Z W) (hn : L.length ≤ 4900) (hk : Osm L) : Calls Tryz.prog 28 #[.pointer (some ⟨s, 0, none⟩)] W fun x W2 => ∃ v, x = .returned v ∧ Tx W.heap.size W2 v (ows L) ∧ Below W.heap.size W W2 := by
  have cO := owned_any h hn hk
  have hS := Lib.hid h.srt
  clear h hk
  go_enter Tryz.func28, Tryz.ntmps28
  go_wp2_with fail
  refine cO.mono ?_
  rintro x w1 ⟨rfl, ⟨M, hMl, hM⟩, b1⟩
  have cK := callsIn_wide.1 (Tryz.maps_Keys_44 (some W.heap.size) w1)
  have cS := callsIn_wide.1 (Tryz.slices_Sorted_keys_43_44 W.heap.size M.length (toD (fun v : Value => v) M) Rv w1 hM.mv (by rw [toD_size]; unfold maxLen; omega) (by rw [toD_size]; omega))
  have HO := Lib.hid (ows_key hS.out hM.s hM.k)
  have HMs := Lib.hid (nms_srt hM.s)
  clear cO hM hMl
  go_wp2_with fail
  refine cK.mono ?_
  rintro x w2 ⟨rfl, rfl⟩
  go_wp2_with fail
  refine cS.mono ?_
  rintro x w3 ⟨v, ss, rfl, hp, hrow, hnil, hb⟩
  rw [toD_keys] at hp
  have e1 : (ss.mergeSort fun x y => decide (x ≤ y)) = nms M := mergeSort_of_perm hp
  rw [HMs.out, HO.out] at e1
  have e2 : ss.length = (ows L).length := by rw [← e1, List.length_mergeSort]
  rw [e1, e2] at hrow
  have ht : Tx (w1.heap.size + 1) w3 v (ows L) := tx_own (by simpa using hrow) fun hv => by
    have := hnil.1 hv
    subst this
    exact List.length_eq_zero_iff.1 e2.symm
  have HF : Hid (Tx W.heap.size w3 v (ows L) ∧ Below W.heap.size W w3) := ⟨ht.low (by have := b1.size; omega), b1.trans (((Below.refl _ _).alloc (Nat.le_refl _) _).trans (hb.mono (by simp)) |>.mono b1.size)⟩
  clear hrow hnil e1 e2 hp cS cK hb b1 ht
  go_wp2
  go_ret
  exact ⟨_, rfl, HF.out.1, HF.out.2⟩
end
end Go.Proofs.YtlldfmnoidndmaaGreatDoor.Dsk
namespace Go.Proofs.YtlldfmnoidndmaaGreatDoor.Dsk
open Go.RowKit Go.Sort Go.Maps

/-- Texts of a row of their own. -/
structure Tr (B : Nat) (W : World) (A : Option Addr) (l : List (List UInt8)) : Prop where
  c : ∀ k (hk : k < l.length), ∃ g, A = some ⟨g, 0, none⟩ ∧ B ≤ g ∧ g < W.heap.size ∧ W.cell? ⟨g, k, none⟩ = some (.string ⟨l[k].toArray⟩)
theorem Tr.on {B : Nat} {W W2 : World} {A : Option Addr} {l : List (List UInt8)} (h : Tr B W A l) (hb : Below W.heap.size W W2) : Tr B W2 A l := ⟨fun k hk => by
  obtain ⟨g, h1, h2, h3, h4⟩ := h.c k hk
  exact ⟨g, h1, h2, Nat.lt_of_lt_of_le h3 hb.size, (hb.cell (p := ⟨g, k, none⟩) h3).trans h4⟩⟩
theorem tr_own {W : World} {B : Nat} {v : Value} {l : List (List UInt8)} (h : W.ownsRow B 9 1 v l.length (l.map fun p => Value.string ⟨p.toArray⟩)) : ∃ A c, v = .slice A l.length c ∧ l.length ≤ c + 0 ∧ Tr B W A l := by
  obtain ⟨A, c, h1, h2⟩ := own_tx h
  refine ⟨A, c, h1, ?_, ⟨h2⟩⟩
  rcases h.2 with ⟨rfl, hl⟩ | ⟨g, cap, cur, rfl, hb, hgg, hc, _⟩
  · rw [show l.length = 0 from hl]; exact Nat.zero_le _
  · cases h1; exact hc
theorem tr_tx {B : Nat} {W : World} {v : Value} {l : List (List UInt8)} (h : Tx B W v l) : ∃ A c, v = .slice A l.length c ∧ Tr B W A l := by
  rcases h.is with ⟨rfl, rfl⟩ | ⟨b, c, rfl, h0, h2, h3⟩
  · exact ⟨none, 0, rfl, ⟨fun k hk => absurd hk (Nat.not_lt_zero _)⟩⟩
  · exact ⟨_, _, rfl, ⟨fun k hk => ⟨b, rfl, h0, h2, h3 k hk⟩⟩⟩
/-- It lies there, or beneath, or above. -/
def bsd (q f : List UInt8) (t : Bool) : Bool := if q = f then !t else (Lib.hasPrefix q (f ++ [47]) || Lib.hasPrefix f (q ++ [47]))
set_option maxRecDepth 100000 in
theorem beneath_any (p a : List UInt8) (W : World) (ha : a.length ≤ 1000) : Calls Tryz.prog 47 #[.string ⟨p.toArray⟩, .string ⟨a.toArray⟩] W fun e w' => e = .returned (.bool (Lib.hasPrefix p (a ++ [47]))) ∧ w' = W := by
  have cH := Tryz.strings_HasPrefix ⟨p.toArray⟩ ⟨(a ++ [47]).toArray⟩ W
  change Calls Tryz.prog 41 _ W fun e w' => e = .returned (.bool (Lib.hasPrefix p (a ++ [47]))) ∧ w' = W at cH
  rw [← cat2] at cH
  go_enter Tryz.func47, Tryz.ntmps47
  go_wp2_with fail
  refine cH.mono ?_
  rintro e w1 ⟨rfl, rfl⟩
  go_wp2
  go_ret
  exact ⟨rfl, rfl⟩
set_option maxRecDepth 100000 in
theorem beside_any (bf bt bn ft : Nat) (cap : Array Value) (q f m _fd : List UInt8) (t : Bool) (W : World) (hq : q.length ≤ 1000) (hf : f.length ≤ 1000) (h1 : W.cell? ⟨bf, 0, none⟩ = some (.string ⟨f.toArray⟩)) (h2 : W.cell? ⟨bt, 0, none⟩ = some (.func (.func ft) #[] cap)) (h3 : W.cell? ⟨bn, 0, none⟩ = some (.string ⟨m.toArray⟩))
    (hm : Calls Tryz.prog 46 #[.func (.func ft) #[] cap, .string ⟨m.toArray⟩] W fun e w' => e = .returned (.bool t) ∧ Below W.heap.size W w') :
    Calls Tryz.prog 45 #[.string ⟨q.toArray⟩, .pointer (some ⟨bf, 0, none⟩), .pointer (some ⟨bt, 0, none⟩), .pointer (some ⟨bn, 0, none⟩)] W fun e w' => e = .returned (.bool (bsd q f t)) ∧ Below W.heap.size W w' := by
  have hl1 : bf < W.heap.size := block_lt_of_cell h1
  have cB1 := beneath_any q f W hf
  have cB2 := beneath_any f q W hq
  by_cases e : q = f
  · have he : (q == f) = true := beq_iff_eq.2 e
    have hb : bsd q f t = !t := by unfold bsd; rw [if_pos e]
    rw [hb]
    clear cB1 cB2 e hb
    go_enter Tryz.func45, Tryz.ntmps45
    go_wp2_with fail
    refine hm.mono ?_
    rintro e w1 ⟨rfl, b1⟩
    go_wp2
    go_ret
    exact ⟨rfl, b1⟩
  · have he : (q == f) = false := beq_eq_false_iff_ne.2 e
    have hb : bsd q f t = (Lib.hasPrefix q (f ++ [47]) || Lib.hasPrefix f (q ++ [47])) := by unfold bsd; rw [if_neg e]
    rw [hb]
    clear hm e hb
    generalize Lib.hasPrefix q (f ++ [47]) = y1 at cB1 ⊢
    generalize Lib.hasPrefix f (q ++ [47]) = y2 at cB2 ⊢
    cases y1 with
    | true =>
      go_enter Tryz.func45, Tryz.ntmps45
      go_wp2_with fail
      refine cB1.mono ?_
      rintro e w1 ⟨rfl, rfl⟩
      go_wp2
      go_ret
      exact ⟨rfl, Below.refl _ _⟩
    | false =>
      go_enter Tryz.func45, Tryz.ntmps45
      go_wp2_with fail
      refine cB1.mono ?_
      rintro e w1 ⟨rfl, rfl⟩
      go_wp2_with fail
      refine cB2.mono ?_
      rintro e w2 ⟨rfl, rfl⟩
      go_wp2
      go_ret
      exact ⟨by cases y2 <;> rfl, Below.refl _ _⟩
set_option maxHeartbeats 1600000 in
set_option maxRecDepth 100000 in
theorem idxS3 (p1 p2 p3 : Value) (B : Nat) (A : Option Addr) (c : Nat) (l : List (List UInt8)) (q : List UInt8 → Bool) (w : World) (h : Tr B w A l) (hn : l.length ≤ 1000000) (hq : ∀ x ∈ l, ∀ W, Below w.heap.size w W → Calls Tryz.prog 45 #[.string ⟨x.toArray⟩, p1, p2, p3] W fun e w' => e = .returned (.bool (q x)) ∧ Below W.heap.size W w') :
    Calls Tryz.prog 86 #[.slice A l.length c, .func (Fn.func 45) #[] #[p1, p2, p3]] w fun e w' => e = .returned (.int .i64 (fx (l.findIdx? q))) ∧ Below w.heap.size w w' := by
  obtain ⟨r, hr⟩ : ∃ r, r = fx (l.findIdx? q) := ⟨_, rfl⟩
  have HR := Lib.hid hr
  rw [← hr]
  clear hr
  have HQ := Lib.hid hq
  have HF := Lib.hid h
  clear hq h
  go_enter Tryz.func86, Tryz.ntmps86
  go_wp2
  go_loopw [8] (fun i W => ∃ k : Nat, k ≤ l.length ∧ i = .int .i64 k ∧ Below w.heap.size w W ∧ Hid (∀ j (hj : j < l.length), j < k → q l[j] = false)) (fun i _ => l.length - (intOf i).toNat)
  case atStart => exact ⟨0, Nat.zero_le _, rfl, Below.refl _ _, fun j _ h => absurd h (Nat.not_lt_zero _)⟩
  case round =>
    obtain ⟨k, hk, rfl, hW, HP⟩ := hrel
    by_cases hlt : k < l.length
    · obtain ⟨g, rfl, _, hg, c0⟩ := (HF.out.on hW).c k hlt
      have cC := HQ.out l[k] (List.getElem_mem hlt) wr hW
      cases hq : q l[k] with
      | true =>
        rw [hq] at cC
        have HG : Hid (r = k) := by show r = _; rw [HR.out, fi_yes k hlt hq (fun j hj h => HP.out j hj h)]; rfl
        generalize l[k] = x at cC c0
        clear hq
        go_wp2_with fail
        refine cC.mono ?_
        rintro e w1 ⟨rfl, b1⟩
        go_wp2_with fail
        go_ret
        exact ⟨reti HG.out.symm, bon hW b1⟩
      | false =>
        rw [hq] at cC
        have HN : Hid (∀ j (hj : j < l.length), j < k + 1 → q l[j] = false) := fun j hj h => by
          by_cases e : j = k
          · subst e; exact hq
          · exact HP.out j hj (by omega)
        generalize l[k] = x at cC c0
        clear hq
        go_wp2_with fail
        refine cC.mono ?_
        rintro e w1 ⟨rfl, b1⟩
        go_wp2_with fail
        exact ⟨⟨k + 1, hlt, by go_num, bon hW b1, HN⟩, by simp [intOf]; omega⟩
    · go_wp2
      go_ret
      exact ⟨reti (by rw [HR.out, fi_no (fun j hj => HP.out j hj (by omega))]; rfl), hW⟩
theorem conS3 (p1 p2 p3 : Value) (B : Nat) (A : Option Addr) (c : Nat) (l : List (List UInt8)) (q : List UInt8 → Bool) (w : World) (h : Tr B w A l) (hn : l.length ≤ 1000000) (hq : ∀ x ∈ l, ∀ W, Below w.heap.size w W → Calls Tryz.prog 45 #[.string ⟨x.toArray⟩, p1, p2, p3] W fun e w' => e = .returned (.bool (q x)) ∧ Below W.heap.size W w') :
    Calls Tryz.prog 48 #[.slice A l.length c, .func (Fn.func 45) #[] #[p1, p2, p3]] w fun e w' => e = .returned (.bool (l.any q)) ∧ Below w.heap.size w w' := by
  have cI := idxS3 p1 p2 p3 B A c l q w h hn hq
  have HE := Lib.hid (fx_any q l)
  generalize fx (l.findIdx? q) = z at cI HE
  clear hq h
  go_enter Tryz.func48, Tryz.ntmps48
  go_wp2_with fail
  refine cI.mono ?_
  rintro e w1 ⟨rfl, b1⟩
  go_wp2
  all_goals go_ret
  all_goals exact ⟨retb (by rw [← HE.out]), b1⟩
/-- Those that have paths, but one. -/
def owx (L : Kv Ent) (n : List UInt8) : List (List UInt8) := (ows L).filter fun m => !(m == n)
def hit (L : Kv Ent) (tk : List UInt8 → Bool) (f m : List UInt8) : Bool := (pts L m).any fun q => bsd q f (tk m)
theorem del_keys {α : Type} (n : List UInt8) (M : Kv α) : (delL n M).map (·.1) = (M.map (·.1)).filter fun m => !(m == n) := by
  unfold delL
  rw [List.filter_map]
  rfl
theorem ows_short {L : Kv Ent} (hS : Srt L) (hO : Osm L) {x : List UInt8} (hx : x ∈ ows L) : x.length ≤ 1000 := by
  obtain ⟨⟨k, e⟩, h1, h2, h3⟩ := (pts_ne hS).1 ((ows_mem hS).1 hx)
  have h4 := hO k (List.mem_map.2 ⟨_, h1, rfl⟩) h2
  rw [ent_lk ((lk_iff hS).2 h1), show e.now = x from h3] at h4
  exact h4.2
/-- What Clash tells. -/
inductive Clr (L : Kv Ent) (n : List UInt8) (tk : List UInt8 → Bool) (F : List (List UInt8 × List UInt8)) : Int → List UInt8 → Prop where
  | no : (∀ f ∈ F, ∀ m ∈ owx L n, hit L tk f.1 m = false) → Clr L n tk F (-1) []
  | yes (i : Nat) (hi : i < F.length) (j : Nat) (hj : j < (owx L n).length) : (∀ t (ht : t < F.length), t < i → ∀ m ∈ owx L n, hit L tk F[t].1 m = false) → (∀ t (ht : t < (owx L n).length), t < j → hit L tk F[i].1 (owx L n)[t] = false) → hit L tk F[i].1 (owx L n)[j] = true → Clr L n tk F i (owx L n)[j]
section
variable {w W : World} {s d : Nat} {Z : Nat → Prop} {L : Kv Ent}
set_option maxRecDepth 100000 in
set_option maxHeartbeats 4000000 in
theorem clash_gen (h : SJ w s d L Z W) (hn : L.length ≤ 4900) (hO : Osm L) (n : List UInt8) (hnl : n.length ≤ 1000) (e : Int) (u r : List UInt8) (vD vA vG vB vR vP vS vL vF : Value) (ft : Nat) (cap : Array Value) (tk : List UInt8 → Bool) (F : List (List UInt8 × List UInt8)) (hF : Fs W vF F) (hFl : F.length ≤ 1000) (hFp : ∀ f ∈ F, f.1.length ≤ 900) (hpl : ∀ m, ∀ p ∈ pts L m, p.length ≤ 900)
    (hm : ∀ m V, m ∈ ows L → Below W.heap.size W V → Calls Tryz.prog 46 #[.func (.func ft) #[] cap, .string ⟨m.toArray⟩] V fun e w' => e = .returned (.bool (tk m)) ∧ Below V.heap.size V w') :
    Calls Tryz.prog 12 #[.pointer (some ⟨s, 0, none⟩), pkv n e u r vD vA vG vB vR vP vS vL vF, .func (.func ft) #[] cap] W fun x W2 => (∃ i m, x = .returned (.tuple #[.int .i64 i, .string ⟨m.toArray⟩]) ∧ Clr L n tk F i m) ∧ Below W.heap.size W W2 := by
  have bA := (Below.refl W.heap.size W).alloc (Nat.le_refl _) (pko n e u r vD vA vG vB vR vP vS vL vF)
  have bB := bA.alloc bA.size (.cells #[.func (.func ft) #[] cap] 48)
  have cO := owned_any (h.up bB) hn hO
  have hSr := Lib.hid h.srt
  have HOL : Hid (∀ x ∈ ows L, x.length ≤ 1000) := fun x hx => ows_short h.srt hO hx
  have x0 : ((W.alloc (pko n e u r vD vA vG vB vR vP vS vL vF)).alloc (.cells #[.func (.func ft) #[] cap] 48)).heap[W.heap.size]? = some (pko n e u r vD vA vG vB vR vP vS vL vF) := by
    rw [Below.heap_alloc _ _ W.heap.size (by simp)]
    exact nb0 _ _
  have y0 : ((W.alloc (pko n e u r vD vA vG vB vR vP vS vL vF)).alloc (.cells #[.func (.func ft) #[] cap] 48)).heap[W.heap.size + 1]? = some (.cells #[.func (.func ft) #[] cap] 48 (0, 0)) := by
    have := nb0 (W.alloc (pko n e u r vD vA vG vB vR vP vS vL vF)) (.cells #[.func (.func ft) #[] cap] 48)
    rwa [World.size_alloc] at this
  have HB := Lib.hid bB
  have HX := Lib.hid x0
  have HY := Lib.hid y0
  have HF := Lib.hid (hF.on bB)
  have HF0 := Lib.hid hF
  have HMY := Lib.hid hm
  have HFP := Lib.hid hFp
  have HPL := Lib.hid hpl
  have hol := ows_len L
  obtain ⟨W1, hW1⟩ : ∃ W1, W1 = (W.alloc (pko n e u r vD vA vG vB vR vP vS vL vF)).alloc (.cells #[.func (.func ft) #[] cap] 48) := ⟨_, rfl⟩
  clear h hO hF bA bB x0 y0 hm hFp hpl
  go_enter Tryz.func12, Tryz.ntmps12
  go_wp2_with fail
  rw [← hW1] at cO HB HX HY HF ⊢
  clear hW1
  obtain ⟨bp, hbp⟩ : ∃ bp, bp = W.heap.size := ⟨_, rfl⟩
  obtain ⟨bt, hbt⟩ : ∃ bt, bt = bp + 1 := ⟨_, rfl⟩
  rw [← hbp, ← hbt] at HY
  rw [← hbp] at HX
  rw [← hbp]
  try rw [← hbt]
  have hWlt : W.heap.size < W1.heap.size := by rw [← hbp]; exact (Array.getElem?_eq_some_iff.1 HX.out).1
  have hWlt2 : bt < W1.heap.size := (Array.getElem?_eq_some_iff.1 HY.out).1
  refine cO.mono ?_
  rintro x w1 ⟨rfl, ⟨M, hMl, hM⟩, b1⟩
  have hb1 := HB.out.trans (b1.mono HB.out.size)
  have hx1 := (b1.block bp (Array.getElem?_eq_some_iff.1 HX.out).1).trans HX.out
  have hy1 := (b1.block bt hWlt2).trans HY.out
  have hF1 := HF.out.on b1
  obtain ⟨m, hm⟩ : ∃ m, m = W1.heap.size := ⟨_, rfl⟩
  have hmW : W.heap.size ≤ m := by omega
  have hbm : bp ≠ m := by omega
  have hbtm : bt ≠ m := by omega
  rw [← hm] at hM
  rw [← hm]
  have p0 : w1.cell? ⟨bp, 0, none⟩ = some (.string ⟨n.toArray⟩) := by simp [World.cell?, hx1]
  have hlt1 : bp < w1.heap.size := (Array.getElem?_eq_some_iff.1 hx1).1
  have hlt1t : bt < w1.heap.size := (Array.getElem?_eq_some_iff.1 hy1).1
  have HM := Lib.hid hM
  have HF1 := Lib.hid hF1
  have HX1 := Lib.hid hx1
  have HY1 := Lib.hid hy1
  have HB1 := Lib.hid hb1
  have HBP := Lib.hid hbp
  clear cO b1 hb1 hx1 hy1 hF1 hM HF HB HX HY hbp hbt hm hWlt hWlt2
  go_wp2_with (at_delete; refine wpList_delete_own _ rfl _ _ 89 9 rfl 40 law9 Tryz.underlying89 Rv m M.length _ rfl HM.out.mv _ _ rfl (key9 n (by omega)) ?_; intro w3 hown3 hturn3; go_frame)
  have b3 : Below W.heap.size W w3 := HB1.out.grown hturn3.grown HB1.out.size (fun r hr => by cases hr; exact hmW)
  rw [toD_del] at hown3
  have hm3 := own_tight hown3
  have hx3 := (hturn3.grown.block bp hlt1 (by simpa using hbm)).trans HX1.out
  have hy3 := (hturn3.grown.block bt hlt1t (by simpa using hbtm)).trans HY1.out
  have hF3 : Fs w3 vF F := HF0.out.on b3
  have hr3 : ∀ x, w3.ownsRow (m + 1) 9 1 (vat x M) (pts L x).length ((pts L x).map fun p => Value.string ⟨p.toArray⟩) := fun x => by
    have hr := HM.out.r x
    refine ⟨hr.1, ?_⟩
    rcases hr.2 with hn | ⟨g', cap', cur, e1, hb, hgg, rest⟩
    · exact .inl hn
    · refine .inr ⟨g', cap', cur, e1, hb, ?_, rest⟩
      rw [hturn3.grown.block g' (Array.getElem?_eq_some_iff.1 hgg).1 (fun e => by cases e; omega)]
      exact hgg
  have hdl := len_del (L := M) n
  have cK := callsIn_wide.1 (Tryz.maps_Keys_44 (some m) w3)
  have cS := callsIn_wide.1 (Tryz.slices_Sorted_keys_43_44 m (delL n M).length (toD (fun v : Value => v) (delL n M)) Rv w3 hm3 (by rw [toD_size]; unfold maxLen; omega) (by rw [toD_size]; omega))
  have hlt3 : bp < w3.heap.size := (Array.getElem?_eq_some_iff.1 hx3).1
  have HO : Hid (nms (delL n M) = owx L n) := by
    show _ = _
    rw [nms_srt (HM.out.s.del n), del_keys, ows_key hSr.out HM.out.s HM.out.k]
    rfl
  have HDM : Hid (∀ x, x ≠ n → vat x (delL n M) = vat x M) := fun x hx => by unfold vat; rw [lk_del_other HM.out.s hx]
  have HM3 : Hid (MV w3 m (delL n M)) := hm3
  have HR3 := Lib.hid hr3
  have HF3 := Lib.hid hF3
  have HX3 := Lib.hid hx3
  have HY3 := Lib.hid hy3
  have HB3 := Lib.hid b3
  clear b3 hown3 hm3 hx3 hy3 hF3 hr3 hturn3 HM HF1 HX1 HY1 HB1 p0 hlt1 hlt1t hMl
  go_wp2_with fail
  refine cK.mono ?_
  rintro x w4 ⟨rfl, hw⟩
  rw [hw]
  clear hw cK w4
  go_wp2_with fail
  refine cS.mono ?_
  rintro x w5 ⟨v, ss, rfl, hp, hrow, hnil, b5⟩
  rw [toD_keys] at hp
  have e1 : (ss.mergeSort fun x y => decide (x ≤ y)) = nms (delL n M) := mergeSort_of_perm hp
  rw [HO.out] at e1
  have e2 : ss.length = (owx L n).length := by rw [← e1, List.length_mergeSort]
  rw [e1, e2] at hrow
  obtain ⟨OA, oc, rfl, _, hTr⟩ := tr_own (v := v) (l := owx L n) hrow
  have b35 : Below w3.heap.size w3 w5 := ((Below.refl w3.heap.size w3).alloc (Nat.le_refl _) _).trans (b5.mono (by simp))
  have hx5 := (b35.block bp hlt3).trans HX3.out
  have hy5 := (b35.block bt (Array.getElem?_eq_some_iff.1 HY3.out).1).trans HY3.out
  have p12 : w5.cell? ⟨bp, 12, none⟩ = some vF := by simp [World.cell?, hx5]
  have hlt5 : bp < w5.heap.size := (Array.getElem?_eq_some_iff.1 hx5).1
  have hlt5t : bt < w5.heap.size := (Array.getElem?_eq_some_iff.1 hy5).1
  have hyc : w5.cell? ⟨bt, 0, none⟩ = some (.func (.func ft) #[] cap) := by simp [World.cell?, hy5]
  have hF5 := HF3.out.on b35
  have hB5 := HB3.out.trans (b35.mono HB3.out.size)
  have hM5 : MV w5 m (delL n M) := mv_on HM3.out (b35.block m (mv_lt HM3.out))
  have hR5 := fun x => own_on' (HR3.out x) b35
  obtain ⟨fp, fc, hvF⟩ : ∃ fp fc, vF = .slice fp F.length fc := by
    rcases hF5.is with ⟨h, A, c, h1⟩ | ⟨b, o, c, h1, _⟩
    · rw [h]; exact ⟨_, _, h1⟩
    · exact ⟨_, _, h1⟩
  subst hvF
  have hol2 : (owx L n).length ≤ 4900 := Nat.le_trans (List.length_filter_le _ _) (by omega)
  have HOX : Hid (∀ x ∈ owx L n, x ∈ ows L ∧ x ≠ n) := fun x hx => by
    have := List.mem_filter.1 hx
    exact ⟨this.1, by simpa using this.2⟩
  have HTr := Lib.hid hTr
  have HF5 := Lib.hid hF5
  have HB5 := Lib.hid hB5
  have HM5 : Hid (MV w5 m (delL n M)) := hM5
  have HR5 := Lib.hid hR5
  have HYC : Hid (w5.cell? ⟨bt, 0, none⟩ = some (.func (.func ft) #[] cap) ∧ bt < w5.heap.size) := ⟨hyc, hlt5t⟩
  clear cS hp hrow hnil e1 e2 b5 b35 hx5 hy5 hF5 hB5 HF3 HX3 HY3 HB3 HF0 hTr hM5 hR5 HM3 HR3 hyc HO
  go_wp2_with fail
  go_loopw [26] (fun iv V => ∃ k : Nat, k ≤ F.length ∧ iv = .int .i64 k ∧ Below w5.heap.size w5 V ∧ Hid (∀ t (ht : t < F.length), t < k → ∀ m ∈ owx L n, hit L tk F[t].1 m = false)) (fun iv _ => F.length - (intOf iv).toNat)
  case atStart => exact ⟨0, Nat.zero_le _, rfl, Below.refl _ _, fun t _ h => absurd h (Nat.not_lt_zero _)⟩
  case round =>
    obtain ⟨k, hk, rfl, hbV, HP⟩ := hrel
    by_cases hlt : k < F.length
    · obtain ⟨fb, fo, rfl, hFr⟩ : ∃ fb fo, fp = some ⟨fb, fo, none⟩ ∧ Fr wr fb fo F := by
        rcases (HF5.out.on hbV).is with ⟨h, _⟩ | ⟨b, o, c, h1, _, h3⟩
        · rw [h] at hlt; simp at hlt
        · cases h1; exact ⟨b, o, rfl, h3⟩
      have f0 := hFr.c0 k hlt
      have f1 := hFr.c1 k hlt
      have hfl := hFr.lt
      have hfp := HFP.out _ (List.getElem_mem hlt)
      have HY1 : Hid (∀ j (hj : j < (owx L n).length), (∀ t (ht : t < (owx L n).length), t < j → hit L tk F[k].1 (owx L n)[t] = false) → hit L tk F[k].1 (owx L n)[j] = true → Clr L n tk F k (owx L n)[j]) := fun j hj h1 h2 => .yes k hlt j hj HP.out h1 h2
      have HN1 : Hid ((∀ t (ht : t < (owx L n).length), t < (owx L n).length → hit L tk F[k].1 (owx L n)[t] = false) → ∀ t (ht : t < F.length), t < k + 1 → ∀ m ∈ owx L n, hit L tk F[t].1 m = false) := fun h t ht h2 m hm => by
        by_cases e : t = k
        · subst e
          obtain ⟨j, hj, rfl⟩ := List.getElem_of_mem hm
          exact h j hj hj
        · exact HP.out t ht (by omega) m hm
      generalize F[k] = f at f0 f1 hfp HY1 HN1
      obtain ⟨fa, fd⟩ := f
      dsimp only at f0 f1 hfp
      have hbV' := hbV.alloc hbV.size (.cells #[.string ⟨fa.toArray⟩, .string ⟨fd.toArray⟩] 73)
      have hxf := nb0 wr (.cells #[.string ⟨fa.toArray⟩, .string ⟨fd.toArray⟩] 73)
      have HBV := Lib.hid hbV'
      have HXF := Lib.hid hxf
      obtain ⟨bf, hbf⟩ : ∃ bf, bf = wr.heap.size := ⟨_, rfl⟩
      rw [← hbf] at HXF
      obtain ⟨VF, hVF⟩ : ∃ VF, VF = wr.alloc (.cells #[.string ⟨fa.toArray⟩, .string ⟨fd.toArray⟩] 73) := ⟨_, rfl⟩
      rw [← hVF] at HXF HBV
      clear hFr hbV hbV' hxf HP
      go_wp2_with fail
      try rw [← hVF, ← hbf]
      clear hbf hVF f0 f1 hfl
      go_loopw [33] (fun iv V => ∃ j : Nat, j ≤ (owx L n).length ∧ iv = .int .i64 j ∧ Below VF.heap.size VF V ∧ Hid (∀ t (ht : t < (owx L n).length), t < j → hit L tk fa (owx L n)[t] = false)) (fun iv _ => (owx L n).length - (intOf iv).toNat)
      case atStart => exact ⟨0, Nat.zero_le _, rfl, Below.refl _ _, fun t _ h => absurd h (Nat.not_lt_zero _)⟩
      case round =>
        obtain ⟨j, hj, rfl, hbJ, HQ⟩ := hrel
        have hb5J : Below w5.heap.size w5 wr := HBV.out.trans (hbJ.mono HBV.out.size)
        by_cases hjt : j < (owx L n).length
        · obtain ⟨og, rfl, _, hog, hoc⟩ := (HTr.out.on hb5J).c j hjt
          obtain ⟨hmo, hmn⟩ := HOX.out _ (List.getElem_mem hjt)
          have HYj := Lib.hid (HY1.out j hjt HQ.out)
          have HNj : Hid (hit L tk fa (owx L n)[j] = false → ∀ t (ht : t < (owx L n).length), t < j + 1 → hit L tk fa (owx L n)[t] = false) := fun h t ht h2 => by
            by_cases e : t = j
            · subst e; exact h
            · exact HQ.out t ht (by omega)
          generalize (owx L n)[j] = nm at hoc hmo hmn HYj HNj
          have bN := hbJ.alloc hbJ.size (.cells #[.string ⟨nm.toArray⟩] 9)
          have bwN := (Below.refl wr.heap.size wr).alloc (Nat.le_refl _) (.cells #[.string ⟨nm.toArray⟩] 9)
          have hxN := nb0 wr (.cells #[.string ⟨nm.toArray⟩] 9)
          obtain ⟨VN, hVN⟩ : ∃ VN, VN = wr.alloc (.cells #[.string ⟨nm.toArray⟩] 9) := ⟨_, rfl⟩
          rw [← hVN] at bN bwN hxN
          obtain ⟨bn, hbn⟩ : ∃ bn, bn = wr.heap.size := ⟨_, rfl⟩
          rw [← hbn] at hxN
          have hb5N := hb5J.trans (bwN.mono hb5J.size)
          have hWN := HB5.out.trans (hb5N.mono HB5.out.size)
          have hMN : MV VN m (delL n M) := mv_on HM5.out (hb5N.block m (mv_lt HM5.out))
          have hnl1 : nm.length ≤ 1000000 := by have := HOL.out nm hmo; omega
          have hlook := mvlook hMN nm hnl1
          rw [HDM.out nm hmn] at hlook
          obtain ⟨A, c, hv, _, hTrN⟩ := tr_own (own_on' (HR5.out nm) hb5N)
          rw [hv] at hlook
          have cN : VN.cell? ⟨bn, 0, none⟩ = some (.string ⟨nm.toArray⟩) := by simp [World.cell?, hxN]
          have cF : VN.cell? ⟨bf, 0, none⟩ = some (.string ⟨fa.toArray⟩) := by
            have := (bN.block bf (Array.getElem?_eq_some_iff.1 HXF.out).1).trans HXF.out
            simp [World.cell?, this]
          have cT : VN.cell? ⟨bt, 0, none⟩ = some (.func (.func ft) #[] cap) := (hb5N.cell (p := ⟨bt, 0, none⟩) HYC.out.2).trans HYC.out.1
          have cC := conS3 (.pointer (some ⟨bf, 0, none⟩)) (.pointer (some ⟨bt, 0, none⟩)) (.pointer (some ⟨bn, 0, none⟩)) (m + 1) A c (pts L nm) (fun q => bsd q fa (tk nm)) VN hTrN (Nat.le_trans (ptf_len L _ nm) (by rw [List.length_map]; omega)) (fun x hx V hV => beside_any bf bt bn ft cap x fa nm fd (tk nm) V (by have := HPL.out nm x hx; omega) (by omega) ((hV.cell (p := ⟨bf, 0, none⟩) (block_lt_of_cell cF)).trans cF) ((hV.cell (p := ⟨bt, 0, none⟩) (block_lt_of_cell cT)).trans cT) ((hV.cell (p := ⟨bn, 0, none⟩) (block_lt_of_cell cN)).trans cN) (HMY.out nm V hmo (hWN.trans (hV.mono hWN.size))))
          change Calls Tryz.prog 48 _ _ fun e w' => e = .returned (.bool (hit L tk fa nm)) ∧ _ at cC
          have HBN := Lib.hid bN
          have HWN := Lib.hid hWN
          have hbnl : bn < VN.heap.size := block_lt_of_cell cN
          have hofr : VN.frozen? ⟨bn, 0, none⟩ = false := by simp [World.frozen?, hxN]
          clear bN bwN hxN hb5N hb5J hMN hTrN hWN cF cT hbJ HQ
          cases hh : hit L tk fa nm with
          | true =>
            rw [hh] at cC
            have HE := Lib.hid (HYj.out hh)
            clear HYj HNj hh
            go_upto_region 11 with fail
            rw [← hVN, ← hbn]
            clear hVN hbn
            go_wp2_with fail
            refine cC.mono ?_
            rintro x V2 ⟨rfl, b2⟩
            have cN2 := (b2.cell (p := ⟨bn, 0, none⟩) hbnl).trans cN
            have cN3 : V2.drew.cell? ⟨bn, 0, none⟩ = some (.string ⟨nm.toArray⟩) := cN2
            have HBf := Lib.hid (HWN.out.trans (b2.mono HWN.out.size))
            clear cC b2 cN hbnl hofr
            go_wp2_with (go_region)
            go_ret2
            exact ⟨⟨_, _, rfl, HE.out⟩, HBf.out.drew⟩
          | false =>
            rw [hh] at cC
            have HE : Hid (∀ t (ht : t < (owx L n).length), t < j + 1 → hit L tk fa (owx L n)[t] = false) := HNj.out hh
            clear HYj HNj hh
            go_upto_region 11 with fail
            rw [← hVN, ← hbn]
            clear hVN hbn
            go_wp2_with fail
            refine cC.mono ?_
            rintro x V2 ⟨rfl, b2⟩
            have HBf := Lib.hid (HBN.out.trans (b2.mono HBN.out.size))
            clear cC b2 cN hbnl hofr
            go_wp2_with fail
            exact ⟨⟨j + 1, hjt, by go_num, HBf.out, HE⟩, by simp [intOf]; omega⟩
        · have hje : j = (owx L n).length := by omega
          subst hje
          have HE := Lib.hid (HN1.out HQ.out)
          have HBe := Lib.hid hb5J
          clear HQ hbJ hb5J HY1 HN1
          go_wp2_with fail
          exact ⟨⟨k + 1, hlt, by go_num, HBe.out, HE⟩, by simp [intOf]; omega⟩
    · obtain rfl : k = F.length := by omega
      have hbf := HB5.out.trans (hbV.mono HB5.out.size)
      have HE : Hid (Clr L n tk F (-1) []) := .no fun f hf m hm => by
        obtain ⟨t, ht, rfl⟩ := List.getElem_of_mem hf
        exact HP.out t ht ht m hm
      clear HP
      go_wp2
      go_ret2
      exact ⟨⟨_, _, rfl, HE.out⟩, hbf⟩
end
end Go.Proofs.YtlldfmnoidndmaaGreatDoor.Dsk
