/- The walks of Small, either side. -/
import Derived.Test.YtniknhfpbcbcbabDoorSm
import Derived.Test.YtniknhfpbcbcbabDoorProg
import Derived.WalkKit
import Derived.OwnWalk
import Derived.BigCall
import Derived.Lib.Hide
import Derived.Lib.ConvBytes
import Derived.Lib.Slices
import Derived.Lib.Builder
import Derived.Laws.IdiomStrings
import Derived.Laws.BytesArg
namespace Go.Proofs.YtniknhfpbcbcbabDoor
open Go.RowKit

theorem ret_bool {a b : Bool} (h : a = b) : Ending.returned (.bool a) = .returned (.bool b) := by rw [h]
theorem ret_sv {a : ByteArray} {b : List UInt8} (h : a = ⟨b.toArray⟩) : Ending.returned (.string a) = .returned (.string ⟨b.toArray⟩) := by rw [h]
theorem onn {w w1 w2 : World} (h : Below w.heap.size w w1) (k : Below w1.heap.size w1 w2) : Below w.heap.size w w2 := h.trans (k.mono h.size)

/-- A row of bytes that may be written. -/
structure Row (W : World) (g n : Nat) (f : Nat → UInt8) : Prop where
  cell : ∀ j, j < n → W.cell? ⟨g, j, none⟩ = some (.int .u8 (f j).toNat)
  free : ∀ j, j < n → W.frozen? ⟨g, j, none⟩ = false

theorem Row.set {W : World} {g n : Nat} {f : Nat → UInt8} (h : Row W g n f) (k : Nat) (hk : k < n) (c : UInt8) : Row (W.setCell ⟨g, k, none⟩ (.int .u8 c.toNat)) g n (fun j => if j = k then c else f j) :=
  ⟨fun j hj => by
    by_cases e : j = k
    · subst e; rw [if_pos rfl]; exact World.cell?_setCell_same _ _ _ (h.cell j hj)
    · rw [if_neg e, World.cell?_setCell_other _ _ _ _ (fun x => e (by injection x with x1 x2 x3; exact x2.symm))]; exact h.cell j hj,
   fun j hj => by rw [World.frozen?_setCell]; exact h.free j hj⟩
theorem Row.cong {W : World} {g n : Nat} {f f' : Nat → UInt8} (h : Row W g n f) (e : ∀ j, j < n → f j = f' j) : Row W g n f' :=
  ⟨fun j hj => by rw [← e j hj]; exact h.cell j hj, h.free⟩
theorem Row.on {W w' : World} {g n : Nat} {f : Nat → UInt8} (h : Row W g n f) (hg : g < W.heap.size) (b : Below W.heap.size W w') : Row w' g n f :=
  ⟨fun j hj => by rw [b.cell hg]; exact h.cell j hj, fun j hj => by rw [b.frozen hg]; exact h.free j hj⟩
theorem Row.text {W : World} {g cap n : Nat} {f : Nat → UInt8} (h : Row W g n f) (l : List UInt8) (hn : l.length = n) (e : ∀ j (hj : j < l.length), f j = l[j]) : (convert 74 9 (.slice (some ⟨g, 0, none⟩) n cap)).run Tryd.prog W = .ok (.string ⟨l.toArray⟩) W := by
  subst hn
  exact run_convert_bytes_back (P := Tryd.prog) W 74 9 5 ⟨g, 0, none⟩ cap l Tryd.underlying74 Tryd.underlying5 Tryd.underlying9 (fun j hj => by
    have := h.cell j hj
    rw [e j hj] at this
    rcases j with _ | j <;> simpa [Addr.add] using this)

/-- A text's bytes in a row of their own. -/
theorem conv_in (l : List UInt8) (w : World) : ∃ cap W, (convert 9 74 (.string ⟨l.toArray⟩)).run Tryd.prog w = .ok (.slice (some ⟨w.heap.size, 0, none⟩) l.length cap) W ∧ Below w.heap.size w W ∧ w.heap.size < W.heap.size ∧ Row W w.heap.size l.length (fun j => l.getD j 0) := by
  refine ⟨_, _, Lib.run_convert_string_bytes (P := Tryd.prog) w 9 74 5 ⟨l.toArray⟩ Tryd.underlying9 Tryd.underlying74 Tryd.underlying5, ?_, ?_, ?_, ?_⟩
  · exact ⟨rfl, rfl, rfl, by rw [Lib.bytesWorld_size]; omega, fun j hj => Lib.bytesWorld_at_old w 5 _ j hj⟩
  · rw [Lib.bytesWorld_size]; omega
  · intro j hj
    have := Lib.bytesWorld_cell w 5 ⟨l.toArray⟩ j hj
    simpa using this
  · intro j hj
    have h1 := Lib.bytesWorld_cell w 5 ⟨l.toArray⟩ j hj
    have h2 := Lib.bytesWorld_at_new w 5 ⟨l.toArray⟩
    have h3 : j < (Lib.bytesCells w 5 ⟨l.toArray⟩).size := by
      rw [Lib.cell_of_heap h2] at h1
      exact (Array.getElem?_eq_some_iff.1 h1).1
    simp [World.frozen?, h2]; omega

def mx (l : List UInt8) (k j : Nat) : UInt8 := if j < k then Sm.sm (l.getD j 0) else l.getD j 0

set_option maxHeartbeats 1600000 in
set_option maxRecDepth 100000 in
theorem small_any (l : List UInt8) (w : World) (hl : l.length ≤ 1000000) : Calls Tryd.prog 81 #[.string ⟨l.toArray⟩] w fun e w' => e = .returned (.string ⟨(Sm.small l).toArray⟩) ∧ Below w.heap.size w w' := by
  obtain ⟨cap, W, hc, hb, hlt, hr⟩ := conv_in l w
  have HR : Hid (Row W w.heap.size l.length (fun j => l.getD j 0)) := hr
  clear hr
  go_enter Tryd.func81, Tryd.ntmps81
  go_wp2_with fail
  go_loopw [10] (fun i W' => ∃ k : Nat, k ≤ l.length ∧ i = .int .i64 k ∧ Below w.heap.size w W' ∧ Hid (Row W' w.heap.size l.length (mx l k))) (fun i _ => l.length - (intOf i).toNat)
  case atStart => exact ⟨0, Nat.zero_le _, rfl, hb, HR.out.cong (fun j _ => by simp [mx])⟩
  case round =>
    obtain ⟨k, hk, rfl, hbk, HK⟩ := hrel
    by_cases hlt : k < l.length
    · have ck := HK.out.cell k hlt
      have fk := HK.out.free k hlt
      rw [show mx l k k = l.getD k 0 from by simp [mx]] at ck
      have nxt : ∀ (W' : World) (c : UInt8), c = Sm.sm (l.getD k 0) → Row W' w.heap.size l.length (fun j => if j = k then c else mx l k j) → Row W' w.heap.size l.length (mx l (k + 1)) := fun W' c hc h => h.cong (fun j _ => by
        unfold mx
        by_cases e : j = k
        · subst e; rw [if_pos rfl, if_pos (Nat.lt_succ_self _), hc]
        · rw [if_neg e]
          by_cases h2 : j < k
          · rw [if_pos h2, if_pos (by omega)]
          · rw [if_neg h2, if_neg (by omega)])
      have gk : l.getD k 0 = l[k] := by simp [List.getD, hlt]
      have same : ∀ W', Row W' w.heap.size l.length (mx l k) → ¬ (65 ≤ l[k].toNat ∧ l[k].toNat ≤ 90) → Row W' w.heap.size l.length (mx l (k + 1)) := fun W' h hn => nxt W' l[k] (by rw [gk, Sm.sm_lo hn]) (h.cong (fun j _ => by
        by_cases e : j = k
        · subst e; rw [if_pos rfl]; unfold mx; rw [if_neg (Nat.lt_irrefl _), gk]
        · rw [if_neg e]))
      have HN := Lib.hid nxt
      have HS := Lib.hid same
      clear nxt same
      go_wp2_with fail
      · have h1 : 65 ≤ l[k].toNat ∧ l[k].toNat ≤ 90 := by omega
        have h2 := Sm.sm_hi h1.1 h1.2
        have e : Value.int .u8 ((l[k].toNat : Int) - 65 + 97) = .int .u8 ((Sm.sm l[k]).toNat : Int) := by rw [h2]; congr 1; omega
        rw [e]
        exact ⟨⟨k + 1, hlt, by go_num, hbk.setCell (Nat.le_refl _) _, HN.out _ _ (by rw [gk]) (HK.out.set k hlt _)⟩, by simp [intOf]; omega⟩
      · exact ⟨⟨k + 1, hlt, by go_num, hbk, HS.out _ HK.out (by omega)⟩, by simp [intOf]; omega⟩
      · exact ⟨⟨k + 1, hlt, by go_num, hbk, HS.out _ HK.out (by omega)⟩, by simp [intOf]; omega⟩
    · have hkl : k = l.length := by omega
      subst hkl
      have hcv := HK.out.text (cap := cap) (Sm.small l) (by simp [Sm.small]) (fun j hj => by
        have hj' : j < l.length := by simpa [Sm.small] using hj
        simp [mx, Sm.small, hj', List.getD])
      go_wp2
      go_ret
      exact ⟨rfl, hbk⟩

/-- The first k in small letters, noughts behind. -/
def mz (l : List UInt8) (k j : Nat) : UInt8 := if j < k then Sm.sm (l.getD j 0) else 0
theorem infoByte : (Tryd.prog.info? 5).map (fun i => (i.zero, i.size, i.bytes)) = some (some (.int .u8 0), 1, 1) := by kernel_rfl

theorem made_row {w W : World} {n : Nat} (h : W.ownsRow w.heap.size 5 1 (.slice (some ⟨w.heap.size, 0, none⟩) n n) n (madeCells (Value.int .u8 0).cells (n * 1)).toList) : Row W w.heap.size n (fun _ => 0) := by
  rcases h.2 with ⟨h1, _⟩ | ⟨g, cap, cur, h1, _, h3, _, _, h6, h7⟩
  · cases h1
  · injection h1 with e1 e2 e3
    injection e1 with e1
    injection e1 with e1
    subst e1 e3
    refine ⟨fun j hj => ?_, fun j _ => by simp [World.frozen?, h3]⟩
    rw [Lib.cell_of_heap h3]
    have h8 : cur.toList[j]? = (madeCells (Value.int .u8 0).cells (n * 1)).toList[j]? := by
      rw [← h7, List.getElem?_take, if_pos (by omega)]
    rw [← Array.getElem?_toList, h8]
    simp [madeCells, Value.cells, hj, Nat.mod_one]

end Go.Proofs.YtniknhfpbcbcbabDoor
