/- The walks of sheetOf, maps.Clone, print. -/
import Derived.Test.YteiobnkaadedkaaGreatDoorBb
import Derived.Test.YteiobnkaadedkaaGreatDoorBu
import Derived.Test.YteiobnkaadedkaaGreatDoorIt
import Derived.Shelf.SlMaps.Clone
namespace Go.Proofs.YteiobnkaadedkaaGreatDoor
open Go.RowKit Go.Sort Go.Maps

theorem shn_succ (s : List UInt8) (k : Nat) (h : k < s.length) : shn (s.take (k + 1)) = (shn (s.take k) * 31 + s[k].toNat) % 4294967296 := by
  unfold shn
  rw [List.take_succ_eq_append_getElem h, List.foldl_append]
  rfl
set_option maxRecDepth 100000 in
theorem sheet_any (s : List UInt8) (w : World) (hs : s.length ≤ 1000000) : Calls Tryz.prog 29 #[.string ⟨s.toArray⟩] w fun x w' => x = .returned (.int .i64 (shf s : Nat)) ∧ w' = w := by
  go_enter Tryz.func29, Tryz.ntmps29
  go_wp2
  go_loop [3, 7] (fun a i => ∃ k : Nat, k ≤ s.length ∧ i = .int .i64 k ∧ a = .int .u32 (shn (s.take k) : Nat)) (fun _ i => s.length - (intOf i).toNat)
  case atStart => exact ⟨0, Nat.zero_le _, rfl, rfl⟩
  case round =>
    obtain ⟨k, hk, rfl, rfl⟩ := hrel
    by_cases hlt : k < s.length
    · have HS := Lib.hid (shn_succ s k hlt)
      go_wp2
      refine ⟨⟨k + 1, hlt, by go_num, ?_⟩, by simp [intOf]; omega⟩
      rw [HS.out]
      show Value.int .u32 (((shn (s.take k) : Int) * 31 % 4294967296 + (s[k].toNat : Int) % 4294967296) % 4294967296) = _
      congr 1
      omega
    · obtain rfl : k = s.length := by omega
      go_wp2
      go_ret
      refine ⟨ret_int ?_, rfl⟩
      unfold shf
      omega

theorem bb_lt : ∀ {a b : List UInt8}, bytesBefore a b = true → a < b
  | [], [], h => by cases h
  | [], _ :: _, _ => List.nil_lt_cons _ _
  | _ :: _, [], h => by cases h
  | x :: a, y :: b, h => by
    unfold bytesBefore at h
    rw [List.cons_lt_cons_iff]
    simp only [Bool.or_eq_true, decide_eq_true_eq, Bool.and_eq_true, beq_iff_eq] at h
    rcases h with h | ⟨h1, h2⟩
    · exact .inl h
    · exact .inr ⟨h1, bb_lt h2⟩
theorem nms_srt {α : Type} {L : Kv α} (h : Srt L) : nms L = L.map (·.1) := by
  unfold nms
  refine List.mergeSort_of_pairwise (List.pairwise_map.2 (h.imp fun {p q} hpq => ?_))
  exact decide_eq_true (List.le_of_lt (bb_lt hpq))

theorem und64 : Tryz.prog.underlying 64 = some (.map 9 77) := Tryz.underlying64
theorem zero77 (w : World) : (zeroValue 77).run Tryz.prog w = .ok (.agg #[.string ⟨#[]⟩]) w := by kernel_rfl
theorem lmlook {w : World} {m n : Nat} {M : Bk} (h : w.ownsMap Tryz.prog 9 Rv m n (toD lv M)) (k : List UInt8) (hk : k.length ≤ 1000000) :
    (Instr.lookup 64 (.map (some m)) (.string ⟨k.toArray⟩) false).run Tryz.prog w = .ok (lv (txt k M)) w ∧ (Instr.lookup 64 (.map (some m)) (.string ⟨k.toArray⟩) true).run Tryz.prog w = .ok (.tuple #[lv (txt k M), .bool (lkL k M).isSome]) w := by
  have hat : ∀ v ps, Rv v = some ((toD lv M).atKey (.string k) (.held (lv [])), ps) → v = lv (txt k M) := fun v ps hv => by
    rw [toD_at] at hv
    unfold txt
    cases hl : lkL k M with
    | none => rw [hl] at hv; simpa [Rv] using congrArg (fun o => o.map Prod.fst) hv
    | some a => rw [hl] at hv; simpa [Rv] using congrArg (fun o => o.map Prod.fst) hv
  constructor
  · obtain ⟨v, ps, h1, h2⟩ := h.lookup law9 Tryz.underlying64 (zero77 w) (zd := .held (lv [])) (zp := []) rfl (key9 k hk)
    rw [h1, hat v ps h2]
  · obtain ⟨v, ps, h1, h2⟩ := h.look_ok law9 Tryz.underlying64 (zero77 w) (zd := .held (lv [])) (zp := []) rfl (key9 k hk)
    rw [h1, hat v ps h2, toD_has]
theorem fld77 (s : ByteArray) (W : World) : Sem.run Tryz.prog (Instr.field 77 (.agg #[.string s]) 0) W = .ok (.string s) W := by kernel_rfl
set_option maxRecDepth 100000 in
theorem clone_map (m : Nat) (M : Bk) (w : World) (h : Lm w m M) : Calls Tryz.prog 30 #[.map (some m)] w fun x w' => x = .returned (.map (some w.heap.size)) ∧ Lm w' w.heap.size M ∧ Below w.heap.size w w' := by
  have hlt := h.lt
  obtain ⟨es, clock, hb, F, hs, hD⟩ := h
  have hq := fun w => run_eql_map_nil_sl (P := Tryz.prog) w 64 _ _ (some m) Tryz.underlying64
  go_enter Tryz.func30, Tryz.ntmps30
  go_wp2
  rw [run_callFunc_extern Tryz.func54 (by kernel_rfl) (by kernel_rfl) (by kernel_rfl) (e := Extern.MapsClone.clone) (by kernel_rfl), run_maps_clone_sl w 64 hb]
  simp only [Result.andThen]
  rw [Oper.upon_value]
  go_wp2
  rw [run_typeAssert_map_sl _ 64 20 _ _ _ Tryz.underlying64]
  simp only [Result.andThen]
  rw [Oper.upon_value]
  go_wp2
  go_ret
  exact ⟨rfl, ⟨es, clock, (MapKept.heap_alloc w _).1, F, hs, hD⟩, (Below.refl _ w).alloc (Nat.le_refl _) _⟩
/-- Texts in a row, with their block. -/
structure Txo (W : World) (v : Value) (l : List (List UInt8)) : Prop where
  is : (l = [] ∧ v = .slice none 0 0) ∨ ∃ (g c : Nat) (cs : Array Value) (fz : Nat × Nat), v = .slice (some ⟨g, 0, none⟩) l.length c ∧ W.heap[g]? = some (.cells cs 9 fz) ∧ ∀ i (hi : i < l.length), cs[i]? = some (.string ⟨l[i].toArray⟩)
theorem txo_own {W : World} {B : Nat} {v : Value} {l : List (List UInt8)} (h : W.ownsRow B 9 1 v l.length (l.map encStr)) (hv : v = .slice none 0 0 → l = []) : Txo W v l := by
  rcases h.2 with ⟨hn, _⟩ | ⟨g, cap, cur, rfl, hbase, hb, h1, h2, h3, h4⟩
  · exact ⟨.inl ⟨hv hn, hn⟩⟩
  · refine ⟨.inr ⟨g, cap, _, _, rfl, hb, fun i hi => ?_⟩⟩
    have := congrArg (·[i]?) h4
    simp only [List.getElem?_take, List.getElem?_map] at this
    rw [if_pos (by omega), List.getElem?_eq_getElem hi] at this
    simpa [encStr] using this
theorem Txo.tx {W : World} {v : Value} {l : List (List UInt8)} (h : Txo W v l) : Tx 0 W v l := by
  rcases h.is with h | ⟨g, c, cs, fz, h1, h2, h3⟩
  · exact ⟨.inl h⟩
  · exact ⟨.inr ⟨g, c, h1, Nat.zero_le _, (Array.getElem?_eq_some_iff.1 h2).1, fun i hi => by unfold World.cell?; rw [h2]; exact h3 i hi⟩⟩
/-- All keys of lines, in order. -/
theorem keys_any (m : Nat) (M : Bk) (w : World) (h : Lm w m M) (hS : Srt M) (hn : M.length ≤ 1000000) : Calls Tryz.prog 39 #[.map (some m)] w fun x w1 => x = .returned (.func (.func 63) #[] #[.pointer (some ⟨w.heap.size, 0, none⟩)]) ∧ Calls Tryz.prog 38 #[.func (.func 63) #[] #[.pointer (some ⟨w.heap.size, 0, none⟩)]] w1 fun y w2 => ∃ v, y = .returned v ∧ Txo w2 v (M.map (·.1)) ∧ Below w.heap.size w w2 := by
  refine (callsIn_wide.1 (Tryz.maps_Keys_39 (some m) w)).mono ?_
  rintro x w1 ⟨rfl, rfl⟩
  refine ⟨rfl, ?_⟩
  refine (callsIn_wide.1 (Tryz.slices_Sorted_keys_38_39 m M.length (toD lv M) Rv w h (by rw [toD_size]; unfold maxLen; omega) (by rw [toD_size]; omega))).mono ?_
  rintro y w2 ⟨v, ss, rfl, hp, hrow, hnil, hb⟩
  rw [toD_keys] at hp
  have e1 : (ss.mergeSort fun x y => decide (x ≤ y)) = M.map (·.1) := (mergeSort_of_perm hp).trans (nms_srt hS)
  have e2 : ss.length = (M.map (·.1)).length := by rw [← e1, List.length_mergeSort]
  rw [e1, e2] at hrow
  refine ⟨v, rfl, txo_own hrow fun hv => ?_, ((Below.refl _ _).alloc (Nat.le_refl _) _).trans (hb.mono (by simp))⟩
  have := hnil.1 hv
  subst this
  exact List.length_eq_zero_iff.1 e2.symm
end Go.Proofs.YteiobnkaadedkaaGreatDoor
