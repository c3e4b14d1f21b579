/- The walks of fits, of put, whichever the disk. -/
import Derived.Test.YteiobnkaadedkaaGreatDoorMf
namespace Go.Proofs.YteiobnkaadedkaaGreatDoor
open Go.RowKit Go.Sort Go.Maps

theorem len_any {w : World} {b : Nat} {mb : Option Nat} {L : Kv Ent} {e : Bool} {c : Int} {bd : Bool} {r : Int} (h : PD w b mb L e c bd r) (W : World) (hW : ∀ m, mb = some m → W.heap[m]? = w.heap[m]?) (ty : TypeId) :
    (Builtin.len_ #[24] ty #[.map mb]).run Tryz.prog W = .ok (.int .i64 L.length) W := by
  cases mb with
  | none =>
    have := h.nil rfl
    subst this
    exact Maps.len_nil Tryz.underlying24 ty
  | some m =>
    obtain ⟨es, cl, h1, h2⟩ := h.map m rfl
    have := World.ownsMap.len (w := W) (b := m) (n := L.length) (D := toD pv L) (R := Rv) ⟨es, cl, (hW m rfl).trans h1, h2⟩ Tryz.underlying24 ty
    rw [this, toD_size]
theorem pd_alloc_at {w : World} {b : Nat} {mb : Option Nat} {L : Kv Ent} {e : Bool} {c : Int} {bd : Bool} {r : Int} (h : PD w b mb L e c bd r) (o : Obj) : ∀ m, mb = some m → (w.alloc o).heap[m]? = w.heap[m]? := fun m hm => Below.heap_alloc w o m (h.map m hm).lt
/-- Is there room? -/
def fit (L : Kv Ent) (k s : List UInt8) (bd : Bool) (r : Int) : Bool := !bd || decide ((tot nl (delL k L) + s.length : Int) ≤ r)

set_option maxHeartbeats 1600000 in
set_option maxRecDepth 100000 in
theorem fits_any (b : Nat) (mb : Option Nat) (L : Kv Ent) (e : Bool) (c : Int) (bd : Bool) (r : Int) (k s : List UInt8) (w : World) (h : PD w b mb L e c bd r) (hk : k.length ≤ 1000000) (hs : s.length ≤ 1000000) (hT : tot nl L ≤ 1000000000) (hn : L.length < 5000) :
    Calls Tryz.prog 76 #[.pointer (some ⟨b, 0, none⟩), .string ⟨k.toArray⟩, .string ⟨s.toArray⟩] w fun z w' => z = .returned (.bool (fit L k s bd r)) ∧ Below w.heap.size w w' := by
  have hd := dc_of h.blk
  obtain ⟨hlt, c0, c1, c2, c3, c4, c5, f0, f1, f2, f3, f4, f5⟩ := hd
  have hy := (look_any h k hk w (fun _ _ => rfl)).2
  obtain ⟨y, hye⟩ : ∃ y, y = ent k L := ⟨_, rfl⟩
  rw [← hye] at hy
  have hl := len_any h (w.alloc (eno y)) (pd_alloc_at h _)
  have hyt : (y.now.length : Int) ≤ (tot nl L : Int) := by
    rw [hye, ent_len]
    have := olen_le nl k h.srt
    omega
  have HT : Hid (((tot nl L : Int) - (y.now.length : Int)) = (tot nl (delL k L) : Int)) := by
    show _ = _
    have := tot_del nl k h.srt
    rw [hye, ent_len]; omega
  have H := Lib.hid h
  clear h hye
  unfold pv at hy
  have bA := (Below.refl w.heap.size w).alloc (Nat.le_refl _) (eno y)
  cases hz : (lkL k L).isSome
  all_goals
    rw [hz] at hy
    cases bd
    all_goals
      go_enter Tryz.func76, Tryz.ntmps76
      go_wp2
      go_quiet (fail)
      go_wp2
      go_ret
      refine ⟨ret_bool ?_, ⟨bA.os, bA.tape, bA.output, bA.size, bA.block⟩⟩
      first | rfl | (unfold fit; rw [← HT.out]; simp)
end Go.Proofs.YteiobnkaadedkaaGreatDoor
