/- strings.Split at ;, strings.Cut at =, as the keeper calls them. -/
import Derived.Test.YtjllnhdampjieaaDoorKc
import Derived.Test.YtjllnhdampjieaaDoorSl
namespace Go.Proofs.YtjllnhdampjieaaDoor
open Go.RowKit Go.Sort Go.Maps Go.Shelf

theorem ixb_hit (c : UInt8) (r : List UInt8) : ∀ p : List UInt8, c ∉ p → Lib.indexByte (p ++ c :: r) c = (p.length : Int)
  | [], _ => by simp [Lib.indexByte]
  | x :: p, h => by
    have hx : (x == c) = false := by rw [beq_eq_false_iff_ne]; exact fun e => h (by rw [e]; exact List.mem_cons_self ..)
    have ih := ixb_hit c r p fun hm => h (List.mem_cons_of_mem _ hm)
    simp only [List.cons_append, Lib.indexByte, hx]
    rw [ih]
    simp only [Bool.false_eq_true, if_false, List.length_cons]
    rw [if_neg (by first | (simp; omega) | simp)]
    omega
theorem ret_cut {a b : ByteArray} {a' b' : ByteArray} {z z' : Bool} (h1 : a = a') (h2 : b = b') (h3 : z = z') : Ending.returned (.tuple #[.string a, .string b, .bool z]) = .returned (.tuple #[.string a', .string b', .bool z']) := by rw [h1, h2, h3]
theorem below_dN (w : World) (n : Nat) : Below w.heap.size w (w.drewN n) := by
  induction n with
  | zero => exact Below.refl _ _
  | succ n ih => exact ih.drew
theorem lcutc_some (c : UInt8) (l : List UInt8) (k : Nat) (w : World) (hl : l.length ≤ 1000000) (hk : k < l.length) (hi : Lib.indexByte l c = k) : Calls Tryd.prog 45 #[.string ⟨l.toArray⟩, .string ⟨#[c]⟩] w fun e w' =>
    e = .returned (.tuple #[.string ⟨(l.take k).toArray⟩, .string ⟨(l.drop (k + 1)).toArray⟩, .bool true]) ∧ ∃ n, w' = w.drewN n := by
  have HI := Lib.hid hi
  clear hi
  go_enter Tryd.func45, Tryd.ntmps45
  go_wp2_with fail
  refine (Tryd.stringslite_Index_one ⟨l.toArray⟩ c _).mono ?_
  rintro e w' ⟨rfl, rfl⟩
  rw [show Lib.indexByte (ByteArray.mk l.toArray).data.toList c = (k : Int) from HI.out]
  have h1 : (k : Int) ≤ (l.length : Int) := by omega
  have h2 : (k : Int) + 1 ≤ (l.length : Int) := by omega
  go_wp2_with fail
  go_quiet (fail)
  go_wp2
  go_ret3
  exact ⟨ret_cut (ba_take l k) (ba_drop l (k + 1)) rfl, _, rfl⟩
theorem lcutc_none (c : UInt8) (l : List UInt8) (w : World) (hi : Lib.indexByte l c = -1) : Calls Tryd.prog 45 #[.string ⟨l.toArray⟩, .string ⟨#[c]⟩] w fun e w' =>
    e = .returned (.tuple #[.string ⟨l.toArray⟩, .string ⟨#[]⟩, .bool false]) ∧ ∃ n, w' = w.drewN n := by
  have HI := Lib.hid hi
  clear hi
  go_enter Tryd.func45, Tryd.ntmps45
  go_wp2_with fail
  refine (Tryd.stringslite_Index_one ⟨l.toArray⟩ c _).mono ?_
  rintro e w' ⟨rfl, rfl⟩
  rw [show Lib.indexByte (ByteArray.mk l.toArray).data.toList c = -1 from HI.out]
  go_wp2
  go_ret3
  exact ⟨rfl, 0, rfl⟩
theorem cut_some (k v : List UInt8) (w : World) (hk : (61 : UInt8) ∉ k) (hl : (k ++ [61] ++ v).length ≤ 1000000) : Calls Tryd.prog 26 #[.string ⟨(k ++ [61] ++ v).toArray⟩, .string ⟨#[61]⟩] w fun e w' => e = .returned (.tuple #[.string ⟨k.toArray⟩, .string ⟨v.toArray⟩, .bool true]) ∧ Below w.heap.size w w' := by
  have e1 : Lib.indexByte (k ++ [61] ++ v) 61 = (k.length : Int) := by rw [List.append_assoc]; exact ixb_hit 61 v k hk
  have cL := fun W => lcutc_some 61 (k ++ [61] ++ v) k.length W hl (by simp) e1
  have t1 : (k ++ [61] ++ v).take k.length = k := by simp
  have t2 : (k ++ [61] ++ v).drop (k.length + 1) = v := by simp
  rw [t1, t2] at cL
  clear t1 t2
  generalize k ++ [61] ++ v = s at cL e1 hl
  clear e1
  go_enter Tryd.func26, Tryd.ntmps26
  go_wp2_with fail
  refine (cL _).mono ?_
  rintro e w' ⟨rfl, n, rfl⟩
  go_wp2
  go_ret3
  exact ⟨rfl, by first | exact below_dN _ _ | exact (below_dN _ _).drew⟩
theorem cut_nil (w : World) : Calls Tryd.prog 26 #[.string ⟨#[]⟩, .string ⟨#[61]⟩] w fun e w' => e = .returned (.tuple #[.string ⟨#[]⟩, .string ⟨#[]⟩, .bool false]) ∧ Below w.heap.size w w' := by
  have cL := fun W => lcutc_none 61 [] W rfl
  go_enter Tryd.func26, Tryd.ntmps26
  go_wp2_with fail
  refine (cL _).mono ?_
  rintro e w' ⟨rfl, n, rfl⟩
  go_wp2
  go_ret3
  exact ⟨rfl, by first | exact below_dN _ _ | exact (below_dN _ _).drew⟩
/-- Pieces, each with a semicolon behind it. -/
def semi (ps : List (List UInt8)) : List UInt8 := (ps.map (· ++ [59])).flatten
theorem semi_cons (p : List UInt8) (ps : List (List UInt8)) : semi (p :: ps) = p ++ 59 :: semi ps := by simp [semi]
theorem semi_ix (p : List UInt8) (ps : List (List UInt8)) (h : (59 : UInt8) ∉ p) : Lib.indexB ⟨(semi (p :: ps)).toArray⟩ ⟨#[59]⟩ = (p.length : Int) := by
  unfold Lib.indexB
  rw [show (ByteArray.mk #[59]).data.toList = [59] from rfl, Lib.index_one]
  rw [semi_cons]
  exact ixb_hit 59 _ p h
theorem semi_rest (p : List UInt8) (ps : List (List UInt8)) : (ByteArray.mk (semi (p :: ps)).toArray).extract (p.length + 1) (ByteArray.mk (semi (p :: ps)).toArray).size = ⟨(semi ps).toArray⟩ := by
  have : (ByteArray.mk (semi (p :: ps)).toArray).size = (semi (p :: ps)).length := rfl
  rw [this, ba_drop, semi_cons]
  congr 2
  simp
theorem semi_nil_ix : Lib.indexB ⟨(semi []).toArray⟩ ⟨#[59]⟩ = -1 := rfl
theorem semi_count : ∀ ps : List (List UInt8), (∀ p ∈ ps, (59 : UInt8) ∉ p) → Lib.countB ⟨(semi ps).toArray⟩ ⟨#[59]⟩ = ps.length
  | [], _ => Lib.countB_miss _ _ semi_nil_ix
  | p :: ps, h => by
    rw [Lib.countB_hit _ ⟨#[59]⟩ p.length (Nat.le_refl 1) (semi_ix p ps (h p (List.mem_cons_self ..)))]
    rw [show (ByteArray.mk #[(59 : UInt8)]).size = 1 from rfl, semi_rest, semi_count ps fun q hq => h q (List.mem_cons_of_mem _ hq)]
    simp; omega
theorem semi_split : ∀ ps : List (List UInt8), (∀ p ∈ ps, (59 : UInt8) ∉ p) → Lib.splitB ⟨#[59]⟩ 0 ps.length ⟨(semi ps).toArray⟩ = (ps ++ [[]]).map fun p : List UInt8 => (ByteArray.mk p.toArray)
  | [], _ => rfl
  | p :: ps, h => by
    rw [List.length_cons, Lib.splitB_hit _ _ _ _ p.length (semi_ix p ps (h p (List.mem_cons_self ..)))]
    rw [show (ByteArray.mk #[(59 : UInt8)]).size = 1 from rfl, semi_rest, semi_split ps fun q hq => h q (List.mem_cons_of_mem _ hq)]
    rw [Nat.add_zero, ba_take, semi_cons]
    simp
theorem split_any (ps : List (List UInt8)) (h : ∀ p ∈ ps, (59 : UInt8) ∉ p) (mm : Int) (w : World) (hs : (semi ps).length ≤ 1000000) (hm : w.cell? ⟨0, 0, none⟩ = some (.int .i64 mm)) :
    Calls Tryd.prog 25 #[.string ⟨(semi ps).toArray⟩, .string ⟨#[59]⟩] w fun e w' => ∃ nb, e = .returned (.slice (some ⟨nb, 0, none⟩) (ps ++ [[]]).length (ps ++ [[]]).length) ∧ w.heap.size ≤ nb ∧ nb < w'.heap.size ∧ (∀ i (hi : i < (ps ++ [[]]).length), w'.cell? ⟨nb, i, none⟩ = some (.string ⟨(ps ++ [[]])[i].toArray⟩)) ∧ Below w.heap.size w w' := by
  have hz : (ByteArray.mk (semi ps).toArray).size = (semi ps).length := rfl
  have h1 := Tryd.strings_Split ⟨(semi ps).toArray⟩ ⟨#[59]⟩ mm w (by omega) hm (Nat.le_refl 1)
  rw [semi_count ps h, semi_split ps h] at h1
  refine h1.mono ?_
  rintro e w' ⟨rfl, rfl⟩
  refine ⟨w.heap.size, by simp, Nat.le_refl _, by simp, fun i hi => ?_, (Below.refl _ _).alloc (Nat.le_refl _) _⟩
  unfold World.cell?
  rw [nb0]
  show (List.map Value.string (List.map (fun p : List UInt8 => ByteArray.mk p.toArray) (ps ++ [[]]))).toArray[i]? = _
  rw [List.getElem?_toArray, List.getElem?_map, List.getElem?_map, List.getElem?_eq_getElem hi]
  rfl
end Go.Proofs.YtjllnhdampjieaaDoor
