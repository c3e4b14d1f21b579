/- All that a disk has, as one text. -/
import Derived.Test.YtjllnhdampjieaaDoorKa
namespace Go.Proofs.YtjllnhdampjieaaDoor
open Go.RowKit Go.Sort Go.Maps

def pcs (L : Kv Ent) (k : List UInt8) : List UInt8 := k ++ [61] ++ (ent k L).now ++ [59]
def altx (L : Kv Ent) : List UInt8 := ((nms L).map (pcs L)).flatten
theorem pcs_take (L : Kv Ent) (l : List (List UInt8)) (i : Nat) (hi : i < l.length) : ((l.take (i + 1)).map (pcs L)).flatten = ((l.take i).map (pcs L)).flatten ++ (l[i] ++ [61] ++ (ent l[i] L).now ++ [59]) := by
  rw [List.take_succ_eq_append_getElem hi, List.map_append, List.flatten_append]
  simp [pcs]
theorem pcs_len (L : Kv Ent) (l : List (List UInt8)) : ∀ (k M : Nat), (∀ x ∈ l, x.length ≤ M) → Bn M L → ((l.take k).map (pcs L)).flatten.length ≤ k * (2 * M + 2) := by
  intro k M hl hB
  induction k with
  | zero => simp
  | succ k ih =>
    by_cases hk : k < l.length
    · rw [pcs_take L l k hk, List.length_append]
      have h1 := hl _ (List.getElem_mem hk)
      have h2 : (ent l[k] L).now.length ≤ M := by
        unfold ent
        cases hlk : lkL l[k] L with
        | none => simp [zent]
        | some a => exact (hB.is _ a hlk).1
      simp only [List.length_append, List.length_cons, List.length_nil]
      rw [Nat.add_mul]
      omega
    · rw [List.take_of_length_le (by omega)]
      rw [List.take_of_length_le (by omega)] at ih
      exact Nat.le_trans ih (Nat.mul_le_mul (by omega) (Nat.le_refl _))
theorem tx_sl {B : Nat} {W : World} {v : Value} {l : List (List UInt8)} (h : Tx B W v l) : ∃ A c, v = .slice A l.length c := by
  rcases h.is with ⟨rfl, rfl⟩ | ⟨b, c, rfl, _⟩
  · exact ⟨none, 0, rfl⟩
  · exact ⟨_, c, rfl⟩
theorem tx_at {B : Nat} {W : World} {A : Option Addr} {n c : Nat} {l : List (List UInt8)} (h : Tx B W (.slice A n c) l) (j : Nat) (hj : j < l.length) : ∃ nb, A = some ⟨nb, 0, none⟩ ∧ nb < W.heap.size ∧ W.cell? ⟨nb, j, none⟩ = some (.string ⟨l[j].toArray⟩) := by
  rcases h.is with ⟨rfl, _⟩ | ⟨b, c', h1, _, h2, h3⟩
  · exact absurd hj (Nat.not_lt_zero _)
  · cases h1; exact ⟨b, rfl, h2, h3 j hj⟩
theorem str_app4 (s a b : List UInt8) : ByteArray.mk s.toArray ++ (ByteArray.mk a.toArray ++ ⟨#[61]⟩ ++ ⟨b.toArray⟩ ++ ⟨#[59]⟩) = ⟨(s ++ (a ++ [61] ++ b ++ [59])).toArray⟩ := by
  apply ByteArray.ext; simp
set_option maxHeartbeats 4000000 in
set_option maxRecDepth 100000 in
theorem all_any (b : Nat) (mb : Option Nat) (L : Kv Ent) (e : Bool) (c : Int) (bd : Bool) (r : Int) (w : World) (h : PD w b mb L e c bd r) (hn : L.length ≤ 1000) (hk : ∀ k ∈ nms L, k.length ≤ 1000) (hB : Bn 1000 L) :
    Calls Tryd.prog 24 #[.pointer (some ⟨b, 0, none⟩)] w fun x w' => x = .returned (.string ⟨(altx L).toArray⟩) ∧ Below w.heap.size w w' := by
  have cL := list_any b mb L e c bd r w h (by omega)
  have HD := Lib.hid h
  have HK := Lib.hid hk
  have HBn := Lib.hid hB
  have hnl := nms_len L
  have HN := Lib.hid hnl
  have hn' : (nms L).length ≤ 1000 := by omega
  clear h hk hnl hB
  go_enter Tryd.func24, Tryd.ntmps24
  go_wp2_with fail
  refine cL.mono ?_
  rintro x w1 ⟨v, rfl, ht, hb1⟩
  obtain ⟨A, cp, rfl⟩ := tx_sl ht
  have HT := Lib.hid ht
  have HB := Lib.hid hb1
  clear ht hb1 cL
  go_wp2_with fail
  go_loopw [3, 5] (fun sv iv W => ∃ k : Nat, k ≤ (nms L).length ∧ iv = .int .i64 k ∧ sv = .string ⟨(((nms L).take k).map (pcs L)).flatten.toArray⟩ ∧ Below w1.heap.size w1 W) (fun _ iv _ => (nms L).length - (intOf iv).toNat)
  case atStart => exact ⟨0, Nat.zero_le _, rfl, rfl, Below.refl _ _⟩
  case round =>
    obtain ⟨k, hk, rfl, rfl, hW⟩ := hrel
    by_cases hlt : k < (nms L).length
    · obtain ⟨nb, rfl, hnb, hcell⟩ : ∃ nb, A = some ⟨nb, 0, none⟩ ∧ nb < w1.heap.size ∧ w1.cell? ⟨nb, k, none⟩ = some (.string ⟨(nms L)[k].toArray⟩) := tx_at HT.out k hlt
      have hcl := (hW.cell (p := ⟨nb, k, none⟩) hnb).trans hcell
      have hkl := HK.out _ (List.getElem_mem hlt)
      have HPT := Lib.hid (pcs_take L (nms L) k hlt)
      obtain ⟨a, ha⟩ := nms_mem.1 (List.getElem_mem hlt)
      have ha := (lk_iff HD.out.srt).2 ha
      have hacl := pcs_len L (nms L) k 1000 (fun x hx => HK.out x hx) HBn.out
      have hcap : k * 2002 ≤ 2002000 := by omega
      have hnw : (ent (nms L)[k] L).now.length ≤ 1000 := by unfold ent; rw [ha]; exact (HBn.out.is _ _ ha).1
      obtain ⟨acc, hacc⟩ : ∃ acc, acc = (((nms L).take k).map (pcs L)).flatten := ⟨_, rfl⟩
      rw [← hacc] at HPT hacl ⊢
      clear hacc
      generalize (nms L)[k] = nm at hcl hcell hkl HPT ha hnw
      have hrd : rdc nm L = 0 := by unfold rdc; rw [ha]; rfl
      have hd := (HD.out.up HB.out).up (hW.mono (Nat.le_refl _))
      have cR := read_any b mb L e c bd r nm wr hd (by omega)
      rw [hrd, show evv 0 = .nilIface from rfl] at cR
      generalize (ent nm L).now = now at cR HPT hnw
      clear hcell hrd ha hd
      go_wp2_with fail
      refine cR.mono ?_
      rintro y W2 ⟨rfl, hb2⟩
      have hcl2 := (hb2.cell (p := ⟨nb, k, none⟩) (block_lt_of_cell hcl)).trans hcl
      have HW := Lib.hid (hW.trans (hb2.mono hW.size))
      clear cR hcl hb2 hW
      go_wp2_with fail
      exact ⟨⟨k + 1, hlt, by go_num, by rw [HPT.out, str_app4], HW.out⟩, by simp [intOf]; omega⟩
    · obtain rfl : k = (nms L).length := by omega
      have hW' := HB.out.trans (hW.mono HB.out.size)
      rw [List.take_length]
      go_wp2
      go_ret
      exact ⟨rfl, hW'⟩
end Go.Proofs.YtjllnhdampjieaaDoor
