/- The walks of put at a disk that has no map yet, of drop and fits. -/
import Derived.Test.YtlldfmnoidndmaaGreatDoorMe
namespace Go.Proofs.YtlldfmnoidndmaaGreatDoor.Dsk
open Go.RowKit Go.Sort Go.Maps

theorem fld_at (x : Ent) (W : World) : Sem.run Tryz.prog (Instr.field 120 (pv x) 0) W = .ok (.string ⟨x.now.toArray⟩) W := fld73 _ _ _ W
/-- The lookup at a disk's map, whichever. -/
theorem look_any {w : World} {b : Nat} {mb : Option Nat} {L : Kv Ent} {e : Bool} {c : Int} {bd : Bool} {r : Int} (h : PD w b mb L e c bd r) (k : List UInt8) (hk : k.length ≤ 1000000) (W : World) (hW : ∀ m, mb = some m → W.heap[m]? = w.heap[m]?) :
    (Instr.lookup 29 (.map mb) (.string ⟨k.toArray⟩) false).run Tryz.prog W = .ok (pv (ent k L)) W ∧ (Instr.lookup 29 (.map mb) (.string ⟨k.toArray⟩) true).run Tryz.prog W = .ok (.tuple #[pv (ent k L), .bool (lkL k L).isSome]) W := by
  cases mb with
  | none =>
    have := h.nil rfl
    subst this
    exact ⟨look_nil' W k hk false, look_nil' W k hk true⟩
  | some m =>
    obtain ⟨es, cl, h1, h2⟩ := h.map m rfl
    exact look_own (w := W) (m := m) (n := L.length) (L := L) ⟨es, cl, (hW m rfl).trans h1, h2⟩ k hk

set_option maxHeartbeats 1600000 in
set_option maxRecDepth 100000 in
theorem drop_any (b : Nat) (mb : Option Nat) (L : Kv Ent) (e : Bool) (c : Int) (bd : Bool) (r : Int) (k : List UInt8) (w : World) (h : PD w b mb L e c bd r) (hk : k.length ≤ 1000000) (hT : tot nl L ≤ 1000000000) :
    Calls Tryz.prog 104 #[.pointer (some ⟨b, 0, none⟩), .string ⟨k.toArray⟩] w fun z w' => z = .returned (.tuple #[]) ∧ PD w' b mb (delL k L) e c bd r ∧ Kp (DX b mb) w w' := by
  have hd := dc_of h.blk
  obtain ⟨hlt, c0, c1, c2, c3, c4, c5, f0, f1, f2, f3, f4, f5⟩ := hd
  have hy := (look_any h k hk w.drew (fun _ _ => rfl)).1
  obtain ⟨y, hye⟩ : ∃ y, y = ent k L := ⟨_, rfl⟩
  rw [← hye] at hy
  have hyt : (y.now.length : Int) ≤ (tot nl L : Int) := by
    rw [hye, ent_len]
    have := olen_le nl k h.srt
    omega
  have H := Lib.hid h
  have HY := Lib.hid hye
  have hF := fun W => fld73 ⟨y.now.toArray⟩ ⟨(y.sf.getD []).toArray⟩ y.sf.isSome W
  unfold pv at hy
  clear h hye
  go_enter Tryz.func104, Tryz.ntmps104
  go_wp2_with fail
  go_region
  have hW1 : Kp (fun k => k = b) w (w.setCell ⟨b, 1, none⟩ (.int .i64 ((tot nl L : Int) - (y.now.length : Int)))).drew := ⟨rfl, rfl, rfl, kp1.size, kp1.block⟩
  have hB1 : (w.setCell ⟨b, 1, none⟩ (.int .i64 ((tot nl L : Int) - (y.now.length : Int)))).drew.heap[b]? = some (dko mb ((tot nl L : Int) - (y.now.length : Int)) e c bd r) := heap_set (i := 1) (u := .int .i64 ((tot nl L : Int) - (y.now.length : Int))) H.out.blk
  generalize (w.setCell ⟨b, 1, none⟩ (.int .i64 ((tot nl L : Int) - (y.now.length : Int)))).drew = W1 at hW1 hB1 ⊢
  clear c0 c1 c2 c3 c4 c5 f0 f1 f2 f3 f4 f5 hy hF
  have c0 := (dc_of hB1).c0
  have ht := tot_del nl k H.out.srt
  have e1 : ((tot nl L : Int) - (y.now.length : Int)) = (tot nl (delL k L) : Int) := by
    rw [HY.out, ent_len]; omega
  have HB := Lib.hid (e1 ▸ hB1)
  clear hB1 ht e1
  cases mb with
  | none =>
    have hrun := fun ty => Maps.drop_nil (w := W1) law9 Tryz.underlying29 (key9 k hk) ty
    have hL := H.out.nil rfl
    subst hL
    go_wp2
    refine bodyPost_end (results_none rfl _ _ _) rfl ⟨rfl, ⟨HB.out, fun _ => rfl, fun _ h => (by cases h), Srt.nil⟩, hW1.mono fun _ h => .inl h⟩
  | some m =>
    have hmb := ne_map H.out.blk (H.out.map m rfl)
    have hown := own_kp (H.out.map m rfl) hW1 hmb
    go_wp2_with (at_delete; refine wpList_delete_own _ rfl _ _ 29 9 rfl 120 law9 Tryz.underlying29 Rv m L.length _ rfl hown _ _ rfl (key9 k hk) ?_; intro w3 hown3 hturn3)
    rw [toD_del] at hown3
    refine bodyPost_end (results_none rfl _ _ _) rfl ⟨rfl, ⟨?_, (fun h => by cases h), fun m' hm' => ?_, H.out.srt.del k⟩, ?_⟩
    · exact (hturn3.grown.block b (Array.getElem?_eq_some_iff.1 HB.out).1 (fun e1 => hmb (by cases e1; rfl))).trans HB.out
    · cases hm'; exact own_tight hown3
    · exact (hW1.mono (Y := DX b (some m)) fun _ h => .inl h).t (Kp.grown hturn3.grown (fun k hk => by cases hk; exact .inr rfl))
end Go.Proofs.YtlldfmnoidndmaaGreatDoor.Dsk
namespace Go.Proofs.YtlldfmnoidndmaaGreatDoor.Dsk
open Go.RowKit Go.Sort Go.Maps

theorem len_any {w : World} {b : Nat} {mb : Option Nat} {L : Kv Ent} {e : Bool} {c : Int} {bd : Bool} {r : Int} (h : PD w b mb L e c bd r) (W : World) (hW : ∀ m, mb = some m → W.heap[m]? = w.heap[m]?) (ty : TypeId) :
    (Builtin.len_ #[29] ty #[.map mb]).run Tryz.prog W = .ok (.int .i64 L.length) W := by
  cases mb with
  | none =>
    have := h.nil rfl
    subst this
    exact Maps.len_nil Tryz.underlying29 ty
  | some m =>
    obtain ⟨es, cl, h1, h2⟩ := h.map m rfl
    have := World.ownsMap.len (w := W) (b := m) (n := L.length) (D := toD pv L) (R := Rv) ⟨es, cl, (hW m rfl).trans h1, h2⟩ Tryz.underlying29 ty
    rw [this, toD_size]
theorem pd_alloc_at {w : World} {b : Nat} {mb : Option Nat} {L : Kv Ent} {e : Bool} {c : Int} {bd : Bool} {r : Int} (h : PD w b mb L e c bd r) (o : Obj) : ∀ m, mb = some m → (w.alloc o).heap[m]? = w.heap[m]? := fun m hm => Below.heap_alloc w o m (h.map m hm).lt
/-- Is there room? -/
def fit (L : Kv Ent) (k s : List UInt8) (bd : Bool) (r : Int) : Bool := !bd || decide ((tot nl (delL k L) + s.length : Int) ≤ r)

set_option maxHeartbeats 1600000 in
set_option maxRecDepth 100000 in
theorem fits_any (b : Nat) (mb : Option Nat) (L : Kv Ent) (e : Bool) (c : Int) (bd : Bool) (r : Int) (k s : List UInt8) (w : World) (h : PD w b mb L e c bd r) (hk : k.length ≤ 1000000) (hs : s.length ≤ 1000000) (hT : tot nl L ≤ 1000000000) (hn : L.length < 5000) :
    Calls Tryz.prog 147 #[.pointer (some ⟨b, 0, none⟩), .string ⟨k.toArray⟩, .string ⟨s.toArray⟩] w fun z w' => z = .returned (.bool (fit L k s bd r)) ∧ Below w.heap.size w w' := by
  have hd := dc_of h.blk
  obtain ⟨hlt, c0, c1, c2, c3, c4, c5, f0, f1, f2, f3, f4, f5⟩ := hd
  have hy := (look_any h k hk w (fun _ _ => rfl)).2
  obtain ⟨y, hye⟩ : ∃ y, y = ent k L := ⟨_, rfl⟩
  rw [← hye] at hy
  have hl := len_any h (w.alloc (eno y)) (pd_alloc_at h _)
  have hyt : (y.now.length : Int) ≤ (tot nl L : Int) := by
    rw [hye, ent_len]
    have := olen_le nl k h.srt
    omega
  have HT : Hid (((tot nl L : Int) - (y.now.length : Int)) = (tot nl (delL k L) : Int)) := by
    show _ = _
    have := tot_del nl k h.srt
    rw [hye, ent_len]; omega
  have H := Lib.hid h
  clear h hye
  unfold pv at hy
  have bA := (Below.refl w.heap.size w).alloc (Nat.le_refl _) (eno y)
  cases hz : (lkL k L).isSome
  all_goals
    rw [hz] at hy
    cases bd
    all_goals
      go_enter Tryz.func147, Tryz.ntmps147
      go_wp2
      go_quiet (fail)
      go_wp2
      go_ret
      refine ⟨ret_bool ?_, ⟨bA.os, bA.tape, bA.output, bA.size, bA.block⟩⟩
      first | rfl | (unfold fit; rw [← HT.out]; simp)
end Go.Proofs.YtlldfmnoidndmaaGreatDoor.Dsk
