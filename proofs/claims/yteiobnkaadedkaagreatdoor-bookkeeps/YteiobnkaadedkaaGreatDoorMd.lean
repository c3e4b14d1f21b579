/- The walks of a disk's functions. -/
import Derived.Test.YteiobnkaadedkaaGreatDoorMc
namespace Go.Proofs.YteiobnkaadedkaaGreatDoor
open Go.RowKit Go.Sort Go.Maps

theorem PD.set {w : World} {b : Nat} {mb : Option Nat} {L : Kv Ent} {e e' : Bool} {c c' : Int} {bd bd' : Bool} {r r' : Int} (h : PD w b mb L e c bd r) {w' : World} (hk : Kp (fun k => k = b) w w') (hb : w'.heap[b]? = some (dko mb (tot nl L : Int) e' c' bd' r')) : PD w' b mb L e' c' bd' r' :=
  ⟨hb, h.nil, fun m hm => by
    have hown := h.map m hm
    have hne : m ≠ b := fun e1 => by
      obtain ⟨es, cl, h1, _⟩ := hown
      rw [e1, h.blk] at h1; cases h1
    have hlt := hown.lt
    obtain ⟨es, cl, h1, h2⟩ := hown
    exact ⟨es, cl, (hk.block m hlt hne).trans h1, h2⟩, h.srt⟩
theorem PD.on {w w' : World} {b : Nat} {mb : Option Nat} {L : Kv Ent} {e : Bool} {c : Int} {bd : Bool} {r : Int} (h : PD w b mb L e c bd r) (hk : ∀ k, k < w.heap.size → DX b mb k → w'.heap[k]? = w.heap[k]?) : PD w' b mb L e c bd r :=
  ⟨(hk b (Array.getElem?_eq_some_iff.1 h.blk).1 (.inl rfl)).trans h.blk, h.nil, fun m hm => by
    have hlt := (h.map m hm).lt
    obtain ⟨es, cl, h1, h2⟩ := h.map m hm
    exact ⟨es, cl, (hk m hlt (.inr hm)).trans h1, h2⟩, h.srt⟩
theorem PD.up {w w' : World} {b : Nat} {mb : Option Nat} {L : Kv Ent} {e : Bool} {c : Int} {bd : Bool} {r : Int} (h : PD w b mb L e c bd r) (hk : Below w.heap.size w w') : PD w' b mb L e c bd r := h.on fun k hk' _ => hk.block k hk'

theorem kp1 {b i : Nat} {w : World} {u : Value} : Kp (fun k => k = b) w (w.setCell ⟨b, i, none⟩ u) := (Kp.refl (fun k => k = b) w).set (p := ⟨b, i, none⟩) rfl u
theorem Kp.t {X : Nat → Prop} {a b c : World} (h : Kp X a b) (k : Kp X b c) : Kp X a c := h.trans k fun _ _ h => h
theorem cut_any (b : Nat) (mb : Option Nat) (L : Kv Ent) (e : Bool) (c : Int) (bd : Bool) (r n : Int) (w : World) (h : PD w b mb L e c bd r) : Calls Tryz.prog 20 #[.pointer (some ⟨b, 0, none⟩), .int .i64 n] w fun x w' => x = .returned (.tuple #[]) ∧ PD w' b mb L (decide (0 ≤ n)) n bd r ∧ Kp (fun k => k = b) w w' := by
  obtain ⟨hlt, c0, c1, c2, c3, c4, c5, f0, f1, f2, f3, f4, f5⟩ := dc_of h.blk
  have H := Lib.hid h
  clear h
  go_enter Tryz.func20, Tryz.ntmps20
  go_wp2
  exact bodyPost_end (results_none rfl _ _ _) rfl ⟨rfl, H.out.set (kp1.t kp1) (heap_set (heap_set H.out.blk)), kp1.t kp1⟩
/-- Is there power? -/
def pwr (e : Bool) (c : Int) : Bool := !e || decide (0 < c)
def chv (e : Bool) (c : Int) : Value := if pwr e c = true then .nilIface else .iface 33 (.int .i64 14)
def chg (e : Bool) (c : Int) : Int := if e = true ∧ 0 < c then c - 1 else c
theorem change_any (b : Nat) (mb : Option Nat) (L : Kv Ent) (e : Bool) (c : Int) (bd : Bool) (r : Int) (w : World) (h : PD w b mb L e c bd r) (hc : c ≤ 9223372036854775807) : Calls Tryz.prog 60 #[.pointer (some ⟨b, 0, none⟩)] w fun x w' => x = .returned (chv e c) ∧ PD w' b mb L e (chg e c) bd r ∧ Kp (fun k => k = b) w w' := by
  have hd := dc_of h.blk
  have cO := on_any b mb _ e c bd r w hd
  obtain ⟨hlt, c0, c1, c2, c3, c4, c5, f0, f1, f2, f3, f4, f5⟩ := hd
  have H := Lib.hid h
  clear h
  cases e with
  | false =>
    go_enter Tryz.func60, Tryz.ntmps60
    go_wp2_with fail
    refine cO.mono ?_
    rintro x w' ⟨rfl, rfl⟩
    go_wp2
    go_ret
    exact ⟨rfl, by simpa [chg] using H.out, Kp.refl _ _⟩
  | true =>
    by_cases hc0 : 0 < c
    · rw [show (!true || decide (0 < c)) = true from by simp [hc0]] at cO
      have HC : Hid (chg true c = c - 1) := by show _ = _; unfold chg; rw [if_pos ⟨rfl, hc0⟩]
      have HP : Hid (chv true c = .nilIface) := by show _ = _; simp [chv, pwr, hc0]
      go_enter Tryz.func60, Tryz.ntmps60
      go_wp2_with fail
      refine cO.mono ?_
      rintro x w' ⟨rfl, rfl⟩
      go_wp2
      go_ret
      refine ⟨by rw [HP.out]; rfl, ?_, kp1⟩
      rw [HC.out]
      exact H.out.set kp1 (heap_set H.out.blk)
    · rw [show (!true || decide (0 < c)) = false from by simp [hc0]] at cO
      have HC : Hid (chg true c = c) := by show _ = _; unfold chg; rw [if_neg (fun h => hc0 h.2)]
      have HP : Hid (chv true c = .iface 33 (.int .i64 14)) := by show _ = _; simp [chv, pwr, hc0]
      go_enter Tryz.func60, Tryz.ntmps60
      go_wp2_with fail
      refine cO.mono ?_
      rintro x w' ⟨rfl, rfl⟩
      go_wp2
      go_ret
      refine ⟨by rw [HP.out]; rfl, ?_, Kp.refl _ _⟩
      rw [HC.out]
      exact H.out
theorem clone_any (s : List UInt8) (w : World) (hs : s.length ≤ 1000000) : Calls Tryz.prog 31 #[.string ⟨s.toArray⟩] w fun x w' => x = .returned (.string ⟨s.toArray⟩) ∧ Below w.heap.size w w' := by
  have cC := Tryz.stringslite_Clone ⟨s.toArray⟩ w (by simp [ByteArray.size]; omega)
  go_enter Tryz.func31, Tryz.ntmps31
  go_wp2_with fail
  refine cC.mono ?_
  rintro x w' ⟨rfl, hb⟩
  go_wp2
  go_ret
  exact ⟨rfl, hb⟩
/-- What stands of a file behind a cut. -/
def lf (e : Ent) (n : Int) : Option (List UInt8) := if e.sf = some e.now then some e.now else if n ≤ 0 then e.sf else some (e.now.take n.toNat ++ (e.sf.getD []).drop (min n.toNat e.now.length))
theorem ba_ext (l : List UInt8) (a b : Nat) : (ByteArray.mk l.toArray).extract a b = ⟨((l.take b).drop a).toArray⟩ := by
  apply ByteArray.ext; simp [List.drop_take]
theorem ba_take (l : List UInt8) (k : Nat) : (ByteArray.mk l.toArray).extract 0 k = ⟨(l.take k).toArray⟩ := by rw [ba_ext, List.drop_zero]
theorem ba_drop (l : List UInt8) (k : Nat) : (ByteArray.mk l.toArray).extract k l.length = ⟨(l.drop k).toArray⟩ := by rw [ba_ext, List.take_length]
theorem ba_app (a b : List UInt8) : ByteArray.mk a.toArray ++ ByteArray.mk b.toArray = ⟨(a ++ b).toArray⟩ := by
  apply ByteArray.ext; simp
/-- The part of left that keeps bytes. -/
theorem left_keep (now s : List UInt8) (z : Bool) (n : Int) (w : World) (h1 : now.length ≤ 1000000) (h2 : s.length ≤ 1000000) (hn' : n ≤ 9223372036854775807) (h0 : 0 < n) (hz : z = true → now ≠ s) : Calls Tryz.prog 43 #[.agg #[.string ⟨now.toArray⟩, .string ⟨s.toArray⟩, .bool z], .int .i64 n] w fun x w' => x = .returned (.tuple #[.string ⟨(now.take n.toNat ++ s.drop (min n.toNat now.length)).toArray⟩, .bool true]) ∧ Below w.heap.size w w' := by
  obtain ⟨k, hk⟩ : ∃ k : Nat, k = min n.toNat now.length := ⟨_, rfl⟩
  obtain ⟨m, hm⟩ : ∃ m : Nat, m = min k s.length := ⟨_, rfl⟩
  have hk1 : min n (now.length : Int) = (k : Int) := by omega
  have hm1 : min (k : Int) (s.length : Int) = (m : Int) := by omega
  have HT : Hid (now.take n.toNat ++ s.drop (min n.toNat now.length) = now.take k ++ s.drop m) := by
    show _ = _
    rw [hk, hm, hk]
    congr 1
    · rw [← List.take_eq_take_min]
    · rw [← List.drop_eq_drop_min]
  have hkl : k ≤ now.length := by omega
  have hml : m ≤ s.length := by omega
  have cC := fun W => clone_any (now.take k) W (by simp; omega)
  have h0' : ¬ n ≤ 0 := by omega
  clear hk hm
  cases z
  case' true => have hne : (now == s) = false := by rw [beq_eq_false_iff_ne]; exact hz rfl
  all_goals
    clear hz
    go_enter Tryz.func43, Tryz.ntmps43
    go_wp2_with fail
    rw [ba_take]
    refine (cC _).mono ?_
    rintro x w1 ⟨rfl, b1⟩
    go_wp2
    go_ret2
    refine ⟨?_, ((Below.refl _ _).alloc (Nat.le_refl _) _).trans (b1.mono (by simp))⟩
    rw [HT.out]
    show Ending.returned (.tuple #[.string (ByteArray.mk (now.take k).toArray ++ (ByteArray.mk s.toArray).extract m s.length), .bool true]) = _
    rw [ba_drop, ba_app]
theorem left_any (e : Ent) (n : Int) (w : World) (h1 : e.now.length ≤ 1000000) (h2 : (e.sf.getD []).length ≤ 1000000) (hn' : n ≤ 9223372036854775807) : Calls Tryz.prog 43 #[pv e, .int .i64 n] w fun x w' => x = .returned (.tuple #[.string ⟨((lf e n).getD []).toArray⟩, .bool (lf e n).isSome]) ∧ Below w.heap.size w w' := by
  obtain ⟨now, sf⟩ := e
  obtain ⟨z, hz⟩ : ∃ z, z = lf ⟨now, sf⟩ n := ⟨_, rfl⟩
  rw [← hz]
  unfold lf at hz
  unfold pv
  dsimp only at h1 h2 hz ⊢
  by_cases hs : sf = some now
  · subst hs
    rw [if_pos rfl] at hz
    subst hz
    go_enter Tryz.func43, Tryz.ntmps43
    go_wp2
    go_ret2
    exact ⟨rfl, (Below.refl _ _).alloc (Nat.le_refl _) _⟩
  · rw [if_neg hs] at hz
    by_cases h0 : n ≤ 0
    · rw [if_pos h0] at hz
      rw [hz]
      clear hz
      cases sf with
      | none =>
        go_enter Tryz.func43, Tryz.ntmps43
        go_wp2
        go_region
        go_wp2
        go_ret2
        exact ⟨rfl, ((Below.refl _ _).alloc (Nat.le_refl _) _).drew⟩
      | some s =>
        have hne : (now == s) = false := by rw [beq_eq_false_iff_ne]; exact fun e => hs (by rw [e])
        go_enter Tryz.func43, Tryz.ntmps43
        go_wp2
        go_region
        go_wp2
        go_ret2
        exact ⟨rfl, ((Below.refl _ _).alloc (Nat.le_refl _) _).drew⟩
    · rw [if_neg h0] at hz
      refine (left_keep now (sf.getD []) sf.isSome n w h1 h2 hn' (by omega) ?_).mono fun x w' ⟨h3, h4⟩ => ⟨by rw [h3, hz]; rfl, h4⟩
      intro h e
      cases sf with
      | none => cases h
      | some s => exact hs (by rw [e]; rfl)
end Go.Proofs.YteiobnkaadedkaaGreatDoor
