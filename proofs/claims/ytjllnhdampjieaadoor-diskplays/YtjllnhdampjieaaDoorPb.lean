/- What either disk does, one behind the other. -/
import Derived.Test.YtjllnhdampjieaaDoorPa
namespace Go.Proofs.YtjllnhdampjieaaDoor
open Go.RowKit Go.Sort Go.Maps

/-- The program's answer, and then the reference's. -/
structure A2 (w : World) (b c i : Nat) (F : Nat) (args : Array Value) (W : World) (x : Ending) (W2 : World) : Prop where
  is : ∃ n : Int, x = .returned (evv n) ∧ F29 W W2 ∧ Calls Tryd.prog F args W2 fun y W3 => y = .returned (.int .i64 n) ∧ F29 W2 W3 ∧ J w b c i W3
theorem bare_evv (n : Int) (w : World) (hE : ErrT w) : Calls Tryd.prog 6 #[evv n, .int .i64 n] w fun x w' => x = .returned (.bool true) ∧ Below w.heap.size w w' := by
  unfold evv
  by_cases h : n = 0
  · rw [if_pos h, h]; exact bare_nil w
  · rw [if_neg h]; exact bare_errno _ w hE
section
variable {w W : World} {b c i m : Nat} {mb : Option Nat} {K : Kv Rx} {L : Kv Ent} {e : Bool} {cc : Int} {bd : Bool} {r lf bt : Int}
theorem tot_ok (h : JX w b c i mb m K L e cc bd r lf bt W) (hi : i < 60) : tot nl L ≤ 12000 ∧ L.length < 60 := ⟨h.jn.tot h.pd.srt (by omega), by have := h.jn.len; omega⟩
theorem act_write (h : JX w b c i mb m K L e cc bd r lf bt W) (hi : i < 60) (k s : List UInt8) (hk : k.length ≤ 100) (hs : s.length ≤ 200) :
    Calls Tryd.prog 7 #[.pointer (some ⟨b, 0, none⟩), .string ⟨k.toArray⟩, .string ⟨s.toArray⟩] W fun x W2 => A2 w b c (i + 1) 8 #[.pointer (some ⟨c, 0, none⟩), .string ⟨k.toArray⟩, .string ⟨s.toArray⟩] W x W2 := by
  obtain ⟨ht, hl⟩ := tot_ok h hi
  refine (write_any b mb L e cc bd r k s W h.pd h.jn.c1 (by omega) (by omega) (by omega) (by omega)).mono fun x W2 ⟨hx, hp⟩ => ?_
  obtain ⟨hF, hbl, hrd, mb', hpd, hne, hmb⟩ := h.prog hp
  have e1 : wcd L e cc bd r k s = rwcd L lf bt k s := by
    unfold wcd rwcd
    rw [h.jn.pw.pwr, h.jn.rm.fit]
    by_cases h0 : lf = 0 <;> simp [h0]
  have e2 : wL L e cc bd r k s = rwL L lf bt k s := by
    unfold wL rwL
    rw [h.jn.pw.pwr, h.jn.rm.fit]
    by_cases h0 : lf = 0 <;> simp [h0]
  refine ⟨_, hx, hF, ?_⟩
  refine (rwrite_any c m K L lf bt k s W2 hrd h.jn.l1 (by omega) (by omega) (by omega) (by omega)).mono fun y W3 ⟨hy, ho⟩ => ?_
  rw [← e2] at ho
  have hj : Jn (i + 1) (wL L e cc bd r k s) e (wc e cc k) bd r (rwl lf k) bt := by
    have hpw : Pwl e (wc e cc k) (rwl lf k) := by
      unfold wc rwl
      split
      · exact h.jn.pw.chg
      · exact h.jn.pw
    refine ⟨hpw, h.jn.rm, ?_, ?_, ?_, ?_, ?_⟩
    · unfold wL
      split
      · exact bn_put h.pd.srt h.jn.bn ⟨hs, (ent_bn h.jn.bn k).2⟩
      · exact h.jn.bn
    · unfold wL
      split
      · have := len_put L k ⟨s, (ent k L).sf⟩; have := h.jn.len; omega
      · have := h.jn.len; omega
    · unfold wL
      split
      · exact ky_put h.pd.srt h.jn.ky hk _
      · exact h.jn.ky
    · unfold wc; split
      · exact chg_le h.jn.c1
      · exact h.jn.c1
    · unfold rwl; split
      · exact rch_le h.jn.l1
      · exact h.jn.l1
  obtain ⟨h1, h2⟩ := j_ref (i := i + 1) h.hb h.hc h.hm hbl hpd hrd hne hmb ho hj
  exact ⟨by rw [hy, e1], h1, h2⟩
theorem tl_pw (h : Jn i L e cc bd r lf bt) (k : List UInt8) : Pwl e (tc L e cc k) (rtl L lf k) ∧ tc L e cc k ≤ 9223372036854775807 ∧ rtl L lf k ≤ 9223372036854775807 := by
  unfold tc rtl
  split
  · exact ⟨h.pw.chg, chg_le h.c1, rch_le h.l1⟩
  · exact ⟨h.pw, h.c1, h.l1⟩
theorem tcd_eq (h : Jn i L e cc bd r lf bt) (k : List UInt8) : tcd L e cc k = rtcd L lf k := by
  unfold tcd rtcd
  rw [h.pw.pwr]
  by_cases h0 : lf = 0 <;> simp [h0]
theorem act_sync (h : JX w b c i mb m K L e cc bd r lf bt W) (hi : i < 60) (k : List UInt8) (hk : k.length ≤ 100) :
    Calls Tryd.prog 9 #[.pointer (some ⟨b, 0, none⟩), .string ⟨k.toArray⟩] W fun x W2 => A2 w b c (i + 1) 10 #[.pointer (some ⟨c, 0, none⟩), .int .i64 0, .string ⟨k.toArray⟩, .string ⟨#[]⟩] W x W2 := by
  obtain ⟨ht, hl⟩ := tot_ok h hi
  refine (sync_any b mb L e cc bd r k W h.pd h.jn.c1 (by omega) (by omega) (by omega)).mono fun x W2 ⟨hx, hp⟩ => ?_
  obtain ⟨hF, hbl, hrd, mb', hpd, hne, hmb⟩ := h.prog hp
  have e2 : sL L e cc k = rsL L lf k := by
    unfold sL rsL
    rw [h.jn.pw.pwr]
    by_cases h0 : lf = 0 <;> simp [h0]
  refine ⟨_, hx, hF, ?_⟩
  refine (rsync_any c m K L lf bt k W2 hrd h.jn.l1 (by omega) (by omega)).mono fun y W3 ⟨hy, ho⟩ => ?_
  rw [← e2] at ho
  obtain ⟨p1, p2, p3⟩ := tl_pw h.jn k
  have hj : Jn (i + 1) (sL L e cc k) e (tc L e cc k) bd r (rtl L lf k) bt := by
    refine ⟨p1, h.jn.rm, ?_, ?_, ?_, p2, p3⟩
    · unfold sL
      split
      · exact bn_put h.pd.srt h.jn.bn ⟨(ent_bn h.jn.bn k).1, (ent_bn h.jn.bn k).1⟩
      · exact h.jn.bn
    · unfold sL
      split
      · have := len_put L k ⟨(ent k L).now, some (ent k L).now⟩; have := h.jn.len; omega
      · have := h.jn.len; omega
    · unfold sL
      split
      · exact ky_put h.pd.srt h.jn.ky hk _
      · exact h.jn.ky
  obtain ⟨h1, h2⟩ := j_ref (i := i + 1) h.hb h.hc h.hm hbl hpd hrd hne hmb ho hj
  exact ⟨by rw [hy, tcd_eq h.jn], h1, h2⟩
theorem act_remove (h : JX w b c i mb m K L e cc bd r lf bt W) (hi : i < 60) (k : List UInt8) (hk : k.length ≤ 100) :
    Calls Tryd.prog 12 #[.pointer (some ⟨b, 0, none⟩), .string ⟨k.toArray⟩] W fun x W2 => A2 w b c (i + 1) 10 #[.pointer (some ⟨c, 0, none⟩), .int .i64 2, .string ⟨k.toArray⟩, .string ⟨#[]⟩] W x W2 := by
  obtain ⟨ht, hl⟩ := tot_ok h hi
  refine (remove_any b mb L e cc bd r k W h.pd h.jn.c1 (by omega) (by omega) (by omega)).mono fun x W2 ⟨hx, hp⟩ => ?_
  obtain ⟨hF, hbl, hrd, mb', hpd, hne, hmb⟩ := h.prog hp
  have e2 : rL L e cc k = rrL L lf k := by
    unfold rL rrL
    rw [h.jn.pw.pwr]
    by_cases h0 : lf = 0 <;> simp [h0]
  refine ⟨_, hx, hF, ?_⟩
  refine (rremove_any c m K L lf bt k W2 hrd h.jn.l1 (by omega) (by omega)).mono fun y W3 ⟨hy, ho⟩ => ?_
  rw [← e2] at ho
  obtain ⟨p1, p2, p3⟩ := tl_pw h.jn k
  have hj : Jn (i + 1) (rL L e cc k) e (tc L e cc k) bd r (rtl L lf k) bt := by
    refine ⟨p1, h.jn.rm, ?_, ?_, ?_, p2, p3⟩
    · unfold rL
      split
      · exact bn_del h.pd.srt h.jn.bn k
      · exact h.jn.bn
    · unfold rL
      split
      · have := len_del (L := L) k; have := h.jn.len; omega
      · have := h.jn.len; omega
    · unfold rL
      split
      · exact ky_del h.pd.srt h.jn.ky k
      · exact h.jn.ky
  obtain ⟨h1, h2⟩ := j_ref (i := i + 1) h.hb h.hc h.hm hbl hpd hrd hne hmb ho hj
  exact ⟨by rw [hy, tcd_eq h.jn], h1, h2⟩
theorem act_move (h : JX w b c i mb m K L e cc bd r lf bt W) (hi : i < 60) (k tt : List UInt8) (hk : k.length ≤ 100) (htt : tt.length ≤ 200) :
    Calls Tryd.prog 11 #[.pointer (some ⟨b, 0, none⟩), .string ⟨k.toArray⟩, .string ⟨tt.toArray⟩] W fun x W2 => A2 w b c (i + 1) 10 #[.pointer (some ⟨c, 0, none⟩), .int .i64 1, .string ⟨k.toArray⟩, .string ⟨tt.toArray⟩] W x W2 := by
  obtain ⟨ht, hl⟩ := tot_ok h hi
  refine (move_any b mb L e cc bd r k tt W h.pd h.jn.c1 (by omega) (by omega) (by omega) (by omega)).mono fun x W2 ⟨hx, hp⟩ => ?_
  obtain ⟨hF, hbl, hrd, mb', hpd, hne, hmb⟩ := h.prog hp
  have e1 : mcd L e cc k tt = rmcd L lf k tt := by
    unfold mcd rmcd
    rw [tcd_eq h.jn]
  have e2 : mL L e cc k tt = rmL L lf k tt := by
    unfold mL rmL
    rw [h.jn.pw.pwr]
    by_cases h0 : lf = 0 <;> simp [h0]
  refine ⟨_, hx, hF, ?_⟩
  refine (rmove_any c m K L lf bt k tt W2 hrd h.jn.l1 (by omega) (by omega) (by omega)).mono fun y W3 ⟨hy, ho⟩ => ?_
  rw [← e2] at ho
  obtain ⟨p1, p2, p3⟩ := tl_pw h.jn k
  have hj : Jn (i + 1) (mL L e cc k tt) e (mc L e cc k tt) bd r (rml L lf k tt) bt := by
    have q1 : Pwl e (mc L e cc k tt) (rml L lf k tt) ∧ mc L e cc k tt ≤ 9223372036854775807 ∧ rml L lf k tt ≤ 9223372036854775807 := by
      unfold mc rml
      split
      · exact ⟨p1, p2, p3⟩
      · exact ⟨h.jn.pw, h.jn.c1, h.jn.l1⟩
    have hns : nok tt = true → tt.length ≤ 100 := fun hh => by
      unfold nok at hh; simp at hh; omega
    refine ⟨q1.1, h.jn.rm, ?_, ?_, ?_, q1.2.1, q1.2.2⟩
    · unfold mL
      split
      · exact bn_put (h.pd.srt.del k) (bn_del h.pd.srt h.jn.bn k) (ent_bn h.jn.bn k)
      · exact h.jn.bn
    · unfold mL
      split
      · have h1 := len_put (delL k L) tt (ent k L); have h2 := len_del (L := L) k; have := h.jn.len; omega
      · have := h.jn.len; omega
    · unfold mL
      split
      · rename_i hh
        exact ky_put (h.pd.srt.del k) (ky_del h.pd.srt h.jn.ky k) (hns hh.1) _
      · exact h.jn.ky
  obtain ⟨h1, h2⟩ := j_ref (i := i + 1) h.hb h.hc h.hm hbl hpd hrd hne hmb ho hj
  exact ⟨by rw [hy, e1], h1, h2⟩
end
end Go.Proofs.YtjllnhdampjieaaDoor
