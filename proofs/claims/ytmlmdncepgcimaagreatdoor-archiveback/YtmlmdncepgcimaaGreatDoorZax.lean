/- The walk of rightFields. -/
import Derived.Test.YtmlmdncepgcimaaGreatDoorZaw
import Derived.Test.YtmlmdncepgcimaaGreatDoorZav
import Derived.Test.YtmlmdncepgcimaaGreatDoorZaq
import Derived.Lib.AppendStr
import Derived.Lib.OthersKept
import Derived.Lib.BufferKept
import Derived.Lib.IndexBytes
namespace Go.Proofs.YtmlmdncepgcimaaGreatDoor.Stz
open Go.RowKit Go.Shelf Go.Sort

def rf (l : List Sm.F) : Bool := decide (1 ≤ l.length) && decide (l.length ≤ 40) && Sm.foks l

theorem rf_nil (A : Option Addr) (c : Nat) (w : World) : Calls Tryz.prog 119 #[.slice A 0 c] w fun e w' => e = .returned (.bool false) ∧ w' = w := by
  go_enter Tryz.func119, Tryz.ntmps119
  go_wp2
  go_ret
  exact ⟨rfl, rfl⟩
theorem rf_long (A : Option Addr) (n c : Nat) (w : World) (h1 : 40 < n) (h2 : n ≤ 60) : Calls Tryz.prog 119 #[.slice A n c] w fun e w' => e = .returned (.bool false) ∧ w' = w := by
  go_enter Tryz.func119, Tryz.ntmps119
  go_wp2
  go_ret
  exact ⟨rfl, rfl⟩

set_option maxHeartbeats 3200000 in
set_option maxRecDepth 100000 in
theorem rf_row (b o c : Nat) (l : List Sm.F) (w : World) (h : Fl w b o l) (hz : Sz l) (hc : l.length ≤ c) (h1 : 1 ≤ l.length) (h40 : l.length ≤ 40) :
    Calls Tryz.prog 119 #[.slice (some ⟨b, o, none⟩) l.length c] w fun e w' => e = .returned (.bool (Sm.foks l)) ∧ Below w.heap.size w w' := by
  obtain ⟨r, hr⟩ : ∃ r, r = Sm.foks l := ⟨_, rfl⟩
  have HR := Lib.hid hr
  rw [← hr]
  clear hr
  have HZ := Lib.hid hz
  clear hz
  go_enter Tryz.func119, Tryz.ntmps119
  go_wp2
  go_loopw [15] (fun i W => ∃ k : Nat, k ≤ l.length ∧ i = .int .i64 k ∧ Below w.heap.size w W ∧ Hid (∀ j (hj : j < l.length), j < k → Sm.fok (l.take j) l[j] = true)) (fun i _ => l.length - (intOf i).toNat)
  case atStart => exact ⟨0, Nat.zero_le _, rfl, Below.refl _ _, fun j _ h => absurd h (Nat.not_lt_zero _)⟩
  case round =>
    obtain ⟨k, hk, rfl, hW, HP⟩ := hrel
    by_cases hlt : k < l.length
    · have hF := h.on hW
      have c0 := hF.c0 k hlt
      have c1 := hF.c1 k hlt
      have hfs := HZ.out.s l[k] (List.getElem_mem hlt)
      have bA : Below w.heap.size w (wr.alloc (.cells #[.string ⟨l[k].1.toArray⟩, .string ⟨l[k].2.toArray⟩] 52)) := hW.alloc hW.size _
      have HFF := Lib.hid (h.on bA)
      have hck : (k : Int) ≤ (c : Int) := by omega
      have b0 : (wr.alloc (.cells #[.string ⟨l[k].1.toArray⟩, .string ⟨l[k].2.toArray⟩] 52)).cell? ⟨wr.heap.size, 0, none⟩ = some (.string ⟨l[k].1.toArray⟩) := by simp
      have b1 : (wr.alloc (.cells #[.string ⟨l[k].1.toArray⟩, .string ⟨l[k].2.toArray⟩] 52)).cell? ⟨wr.heap.size, 1, none⟩ = some (.string ⟨l[k].2.toArray⟩) := by simp
      go_wp2_with fail
      generalize hwz : (wr.alloc (.cells #[.string ⟨l[k].1.toArray⟩, .string ⟨l[k].2.toArray⟩] 52)) = wz at bA HFF b0 b1 ⊢
      clear hwz
      have k0 := cell_regrown b0
      have k1 := cell_regrown b1
      obtain ⟨q1, hq1⟩ : ∃ q, q = Sm.nok l[k].1 := ⟨_, rfl⟩
      obtain ⟨q2, hq2⟩ : ∃ q, q = Sm.vok l[k].2 := ⟨_, rfl⟩
      obtain ⟨q3, hq3⟩ : ∃ q, q = Sm.fnd (l.take k) l[k].1 := ⟨_, rfl⟩
      have hsz : Sz (l.take k) := ⟨by simp; have := HZ.out.n; omega, fun f hf => HZ.out.s f (List.mem_of_mem_take hf)⟩
      have hsl : Sl wz (.slice (some ⟨b, o, none⟩) k c) (l.take k) := ⟨Or.inr ⟨b, o, c, by rw [List.length_take, Nat.min_eq_left (by omega)], by simp; omega, HFF.out.take k⟩⟩
      have d1 : ∀ d os, Calls Tryz.prog 166 #[.string ⟨l[k].1.toArray⟩] (grow (redrawn wz d) os) fun x w'' => x = .returned (.bool q1) ∧ ∃ p : Regrown, w'' = grow (redrawn wz p.d) p.os := fun d os => (rn_any l[k].1 _ (by omega)).mono fun _ _ ⟨he, hw⟩ => ⟨by rw [he, hq1], ⟨d, os⟩, hw⟩
      have d2 : ∀ d os, Calls Tryz.prog 167 #[.string ⟨l[k].2.toArray⟩] (grow (redrawn wz d) os) fun x w'' => x = .returned (.bool q2) ∧ ∃ p : Regrown, w'' = grow (redrawn wz p.d) p.os := fun d os => Calls.regrown_of (by rw [hq2]; exact value_any l[k].2 _ (by omega))
      have d3 : ∀ d os, Calls Tryz.prog 138 #[.slice (some ⟨b, o, none⟩) k c, .string ⟨l[k].1.toArray⟩] (grow (redrawn wz d) os) fun x w'' => x = .returned (.int .i64 (ix q3)) ∧ ∃ p : Regrown, w'' = grow (redrawn wz p.d) p.os := fun d os => Calls.regrown_of (by rw [hq3]; exact find_any _ (l.take k) l[k].1 _ (hsl.on (below_regrown wz d os)) hsz (by omega))
      have HQ : Hid (Sm.fok (l.take k) l[k] = (q1 && q2 && q3.isNone)) := by show Sm.fok _ _ = _; unfold Sm.fok; rw [hq1, hq2, hq3]
      have HNo0 : Hid ((q1 && q2 && q3.isNone) = false → r = false) := fun e => by rw [HR.out]; exact Sm.foks_no k hlt (by rw [HQ.out, e])
      clear hq1 hq2 hq3 hsz hsl HFF b0 b1 c0 c1 hF hfs
      cases q1 with
      | false =>
        have HNo : Hid (r = false) := HNo0.out rfl
        refine wp_region_quiet_below (by kernel_rfl) (by kernel_rfl) ?_
        repeat (any_goals (first | go_big_quiet_step ((first | with_reducible exact d1 _ _ | with_reducible exact d2 _ _ | with_reducible exact d3 _ _)) | quiet_step ((first | with_reducible exact d1 _ _ | with_reducible exact d2 _ _ | with_reducible exact d3 _ _))))
        refine wpQuiet_nil ?_
        intro wq hwq
        have hq := rg bA hwq
        go_wp2_with fail
        go_ret
        exact ⟨ret_bool HNo.out.symm, hq⟩
      | true =>
        cases q2 with
        | false =>
          have HNo : Hid (r = false) := HNo0.out rfl
          refine wp_region_quiet_below (by kernel_rfl) (by kernel_rfl) ?_
          repeat (any_goals (first | go_big_quiet_step ((first | with_reducible exact d1 _ _ | with_reducible exact d2 _ _ | with_reducible exact d3 _ _)) | quiet_step ((first | with_reducible exact d1 _ _ | with_reducible exact d2 _ _ | with_reducible exact d3 _ _))))
          refine wpQuiet_nil ?_
          intro wq hwq
          have hq := rg bA hwq
          go_wp2_with fail
          go_ret
          exact ⟨ret_bool HNo.out.symm, hq⟩
        | true =>
          cases q3 with
          | some i =>
            have HNo : Hid (r = false) := HNo0.out rfl
            rw [show ix (some i) = (i : Int) from rfl] at d3
            refine wp_region_quiet_below (by kernel_rfl) (by kernel_rfl) ?_
            repeat (any_goals (first | go_big_quiet_step ((first | with_reducible exact d1 _ _ | with_reducible exact d2 _ _ | with_reducible exact d3 _ _)) | quiet_step ((first | with_reducible exact d1 _ _ | with_reducible exact d2 _ _ | with_reducible exact d3 _ _))))
            refine wpQuiet_nil ?_
            intro wq hwq
            have hq := rg bA hwq
            go_wp2_with fail
            go_ret
            exact ⟨ret_bool HNo.out.symm, hq⟩
          | none =>
            rw [show ix none = -1 from rfl] at d3
            have HN : Hid (∀ j (hj : j < l.length), j < k + 1 → Sm.fok (l.take j) l[j] = true) := fun j hj h => by
              by_cases e : j = k
              · subst e; rw [HQ.out]; rfl
              · exact HP.out j hj (by omega)
            refine wp_region_quiet_below (by kernel_rfl) (by kernel_rfl) ?_
            repeat (any_goals (first | go_big_quiet_step ((first | with_reducible exact d1 _ _ | with_reducible exact d2 _ _ | with_reducible exact d3 _ _)) | quiet_step ((first | with_reducible exact d1 _ _ | with_reducible exact d2 _ _ | with_reducible exact d3 _ _))))
            refine wpQuiet_nil ?_
            intro wq hwq
            have hq := rg bA hwq
            go_wp2_with fail
            exact ⟨⟨k + 1, hlt, by go_num, hq, HN⟩, by simp [intOf]; omega⟩
    · go_wp2
      go_ret
      exact ⟨ret_bool (by rw [HR.out, Sm.foks_yes (fun j hj => HP.out j hj (by omega))]), hW⟩

end Go.Proofs.YtmlmdncepgcimaaGreatDoor.Stz

/- The walks of a strings.Builder that is written: copyCheck, WriteString, WriteByte. -/
namespace Go.Proofs.YtmlmdncepgcimaaGreatDoor.Stz
open Go.RowKit Go.Shelf

theorem sizeB : (Tryz.prog.info? 122).map (·.size) = some 2 := by kernel_rfl
theorem neB5 : (122 : TypeId) ≠ 5 := by decide

set_option maxHeartbeats 1000000 in
set_option maxRecDepth 100000 in
theorem copy_used (b : Nat) (w : World) (h0 : w.cell? ⟨b, 0, none⟩ = some (.pointer (some ⟨b, 0, none⟩))) :
    Calls Tryz.prog 153 #[.pointer (some ⟨b, 0, none⟩)] w fun e w' => e = .returned (.tuple #[]) ∧ w' = w := by
  obtain ⟨j, hj, _⟩ := Option.map_eq_some_iff.1 sizeB
  go_enter Tryz.func153, Tryz.ntmps153
  go_wp2
  rw [Lib.run_neq_ptr_same w _ Tryz.underlying119 hj]
  go_wp2
  go_end0
  exact ⟨rfl, rfl⟩

set_option maxHeartbeats 1000000 in
set_option maxRecDepth 100000 in
theorem copy_fresh (b : Nat) (w : World) (h0 : w.cell? ⟨b, 0, none⟩ = some (.pointer none)) (hsh : w.shape? b = some (122, 2)) (hfz : w.frozen? ⟨b, 0, none⟩ = false) :
    Calls Tryz.prog 153 #[.pointer (some ⟨b, 0, none⟩)] w fun e w' => e = .returned (.tuple #[]) ∧ w' = w.setCell ⟨b, 0, none⟩ (.pointer (some ⟨b, 0, none⟩)) := by
  obtain ⟨j, hj, hjs⟩ := Option.map_eq_some_iff.1 sizeB
  go_enter Tryz.func153, Tryz.ntmps153
  go_wp2
  rw [Lib.run_to_unsafe w ⟨b, 0, none⟩ Tryz.underlying119 Tryz.underlying173 hj (by rw [hjs]; decide) hsh (Nat.zero_lt_succ 1)]
  simp only [Result.andThen]
  rw [Oper.upon_value]
  go_wp2
  rw [run_callFunc_extern Tryz.func201 (by kernel_rfl) (by kernel_rfl) (by kernel_rfl) (e := Extern.AbiNoEscape.same) (by kernel_rfl)]
  rw [Lib.run_noEscape]
  simp only [Result.andThen]
  rw [Oper.upon_value]
  go_wp2
  rw [Lib.run_from_unsafe w ⟨b, 0, none⟩ Tryz.underlying173 Tryz.underlying119 hj hsh Tryz.Builder_Extra_169.liesBuilder]
  simp only [Result.andThen]
  rw [Oper.upon_value]
  go_wp2
  go_end0
  exact ⟨rfl, rfl⟩

theorem copy_any (B b : Nat) (bs : List Value) (w : World) (h : Lib.IsBuilder 122 5 B b bs w) :
    Calls Tryz.prog 153 #[.pointer (some ⟨b, 0, none⟩)] w fun e w' => e = .returned (.tuple #[]) ∧ (Lib.BuilderAt 122 5 B b (.pointer (some ⟨b, 0, none⟩)) bs w' ∧ Below B w w' ∧ Lib.OthersKept 5 (some b) w w') := by
  rcases h with h | h
  · refine (copy_fresh b w h.cell0 h.shape h.frozen0).mono ?_
    rintro e w' ⟨rfl, rfl⟩
    exact ⟨rfl, h.used _, (Below.refl B w).setCell (p := ⟨b, 0, none⟩) h.1 _, (Lib.OthersKept.refl _ _ _).setCell ⟨b, 0, none⟩ rfl _⟩
  · refine (copy_used b w h.cell0).mono ?_
    rintro e w' ⟨rfl, rfl⟩
    exact ⟨rfl, h, Below.refl B _, Lib.OthersKept.refl _ _ _⟩

theorem row_kind {w : World} {B n : Nat} {v : Value} {xs : List Value} (h : w.ownsRow B 5 1 v n xs) : ∀ g, v.ownBlock = some g → ∃ c fz, w.heap[g]? = some (.cells c 5 fz) := by
  intro g hg
  rcases h.2 with ⟨rfl, _⟩ | ⟨g', cap, cur, rfl, _, h3, _⟩
  · cases hg
  · cases hg; exact ⟨_, _, h3⟩

set_option maxHeartbeats 1000000 in
set_option maxRecDepth 100000 in
theorem write_str (B b : Nat) (bs : List Value) (s : ByteArray) (w : World) (h : Lib.IsBuilder 122 5 B b bs w) (hlen : bs.length + s.size ≤ 140737488355328) (hBw : B ≤ w.heap.size) :
    Calls Tryz.prog 96 #[.pointer (some ⟨b, 0, none⟩), .string s] w fun e w' => e = .returned (.tuple #[.int .i64 s.size, .nilIface]) ∧ (Lib.BuilderAt 122 5 B b (.pointer (some ⟨b, 0, none⟩)) (bs ++ Lib.strCells s) w' ∧ Below B w w' ∧ Lib.OthersKept 5 (some b) w w') := by
  obtain ⟨i0, hi, hz0, hz1, hz2⟩ := info_parts infoByte
  go_enter Tryz.func96, Tryz.ntmps96
  go_wp2_with (go_at_call 153; refine (copy_any B b bs _ h).mono ?_)
  rintro e w1 ⟨rfl, h1, hb1, hk1⟩
  obtain ⟨hB, v, hbk, hown, hne⟩ := h1
  have c0 : w1.cell? ⟨b, 0, none⟩ = some (.pointer (some ⟨b, 0, none⟩)) := by rw [Lib.cell_of_heap hbk]; rfl
  have c1 : w1.cell? ⟨b, 1, none⟩ = some v := by rw [Lib.cell_of_heap hbk]; rfl
  go_wp2_with (at_builtin; refine Lib.wpList_append_own_string _ rfl _ _ 120 9 rfl B 5 i0 Tryz.underlying120 Tryz.underlying9 hi hz0 hz1 hz2 _ _ _ rfl hown s rfl ?c3 ?c4 ?c5 ?_)
  case c3 => unfold maxLen; omega
  case c4 => omega
  case c5 => have := hb1.size; omega
  intro v' w2 hown' hgrow _
  have hlt : b < w1.heap.size := by
    rcases Nat.lt_or_ge b w1.heap.size with h' | h'
    · exact h'
    · simp [Array.getElem?_eq_none h'] at hbk
  have hb2 : w2.heap[b]? = some (.cells #[.pointer (some ⟨b, 0, none⟩), v] 122 (0, 0)) := by
    rw [hgrow.block b hlt (fun e => hne e.symm)]
    exact hbk
  have d0 : w2.cell? ⟨b, 0, none⟩ = some (.pointer (some ⟨b, 0, none⟩)) := by rw [Lib.cell_of_heap hb2]; rfl
  have d1 : w2.cell? ⟨b, 1, none⟩ = some v := by rw [Lib.cell_of_heap hb2]; rfl
  have f1 : w2.frozen? ⟨b, 1, none⟩ = false := Lib.frozen_of_heap hb2 1
  obtain ⟨ao, n', cap, rfl⟩ : ∃ ao n' cap, v' = .slice ao n' cap := by
    rcases hown'.2 with ⟨hv, _⟩ | ⟨g, cap, cur, hv, _⟩
    · exact ⟨_, _, _, hv⟩
    · exact ⟨_, _, _, hv⟩
  go_wp2
  go_ret2
  refine ⟨rfl, ?_, ?_, (hk1.grown hgrow (row_kind hown)).setCell ⟨b, 1, none⟩ rfl _⟩
  · exact Lib.BuilderAt.put (T := 122) (e := 5) hB hb2 (bs' := bs ++ Lib.strCells s) (by simpa [Lib.strCells_length] using hown') neB5
  · exact (hb1.grown hgrow (by have := hb1.size; omega) (fun k hk => (hown.lt k hk).1)).setCell (p := ⟨b, 1, none⟩) hB _

set_option maxHeartbeats 1000000 in
set_option maxRecDepth 100000 in
theorem write_byte (B b : Nat) (bs : List Value) (c : Int) (w : World) (h : Lib.IsBuilder 122 5 B b bs w) (hlen : bs.length + 1 ≤ 140737488355328) (hBw : B ≤ w.heap.size) :
    Calls Tryz.prog 97 #[.pointer (some ⟨b, 0, none⟩), .int .u8 c] w fun e w' => e = .returned .nilIface ∧ (Lib.BuilderAt 122 5 B b (.pointer (some ⟨b, 0, none⟩)) (bs ++ [.int .u8 c]) w' ∧ Below B w w' ∧ Lib.OthersKept 5 (some b) w w') := by
  obtain ⟨i0, hi, hz0, hz1, hz2⟩ := info_parts infoByte
  go_enter Tryz.func97, Tryz.ntmps97
  go_wp2_with (go_at_call 153; refine (copy_any B b bs _ h).mono ?_)
  rintro e w1 ⟨rfl, h1, hb1, hk1⟩
  obtain ⟨hB, v, hbk, hown, hne⟩ := h1
  have c0 : w1.cell? ⟨b, 0, none⟩ = some (.pointer (some ⟨b, 0, none⟩)) := by rw [Lib.cell_of_heap hbk]; rfl
  have c1 : w1.cell? ⟨b, 1, none⟩ = some v := by rw [Lib.cell_of_heap hbk]; rfl
  go_wp2_with (at_builtin; refine wpList_append_own _ rfl _ _ 120 rfl B 5 i0 (.int .u8 0) 1 1 Tryz.underlying120 hi hz0 hz1 hz2 rfl (by decide) _ _ _ rfl (hown.alloc _) ⟨w1.heap.size, 0, none⟩ 1 1 [.int .u8 c] rfl rfl ?c1 ?c2 ?c3 ?c4 ?c5 ?_)
  case c1 =>
    intro j u hj
    match j, hj with
    | 0, hj => simp at hj; subst hj; simp [Addr.add]
  case c2 => intro u hu; simp at hu; subst hu; rfl
  case c3 => unfold maxLen; omega
  case c4 => omega
  case c5 => have := hb1.size; simp; omega
  intro v' w2 hown' hgrow _
  have hlt : b < w1.heap.size := by
    rcases Nat.lt_or_ge b w1.heap.size with h' | h'
    · exact h'
    · simp [Array.getElem?_eq_none h'] at hbk
  have hb2 : w2.heap[b]? = some (.cells #[.pointer (some ⟨b, 0, none⟩), v] 122 (0, 0)) := by
    rw [hgrow.block b (by simp; omega) (fun e => hne e.symm), Lib.alloc_old w1 _ b hlt]
    exact hbk
  have d0 : w2.cell? ⟨b, 0, none⟩ = some (.pointer (some ⟨b, 0, none⟩)) := by rw [Lib.cell_of_heap hb2]; rfl
  have d1 : w2.cell? ⟨b, 1, none⟩ = some v := by rw [Lib.cell_of_heap hb2]; rfl
  have f1 : w2.frozen? ⟨b, 1, none⟩ = false := Lib.frozen_of_heap hb2 1
  obtain ⟨g, cap, rfl⟩ : ∃ g cap, v' = .slice (some ⟨g, 0, none⟩) (bs.length + 1) cap := by
    rcases hown'.2 with ⟨_, h0⟩ | ⟨g, cap, cur, hv, _⟩
    · omega
    · exact ⟨g, cap, hv⟩
  go_wp2
  go_ret
  refine ⟨rfl, ?_, ?_, ((hk1.alloc _).grown hgrow (row_kind (hown.alloc _))).setCell ⟨b, 1, none⟩ rfl _⟩
  · exact Lib.BuilderAt.put (T := 122) (e := 5) hB hb2 (bs' := bs ++ [.int .u8 c]) (by simpa using hown') neB5
  · exact ((hb1.alloc (by have := hb1.size; omega) _).grown hgrow (by have := hb1.size; simp; omega) (fun k hk => (hown.lt k hk).1)).setCell (p := ⟨b, 1, none⟩) hB _

/-- A builder that holds these bytes. -/
structure Bd (B b : Nat) (l : List UInt8) (w : World) : Prop where
  is : Lib.IsBuilder 122 5 B b (Lib.byteCells l) w
  le : B ≤ w.heap.size

theorem bd_str (B b : Nat) (l s : List UInt8) (w : World) (h : Bd B b l w) (hl : l.length ≤ 1000000) (hs : s.length ≤ 1000000) :
    Calls Tryz.prog 96 #[.pointer (some ⟨b, 0, none⟩), .string ⟨s.toArray⟩] w fun e w' => e = .returned (.tuple #[.int .i64 s.length, .nilIface]) ∧ Bd B b (l ++ s) w' ∧ Below B w w' ∧ Lib.OthersKept 5 (some b) w w' := by
  have e1 : (ByteArray.mk s.toArray).size = s.length := by simp [ByteArray.size]
  refine (write_str B b _ ⟨s.toArray⟩ w h.is (by rw [e1]; simp [Lib.byteCells]; omega) h.le).mono ?_
  rintro e w' ⟨rfl, h1, h2, h3⟩
  have e2 : Lib.byteCells l ++ Lib.strCells ⟨s.toArray⟩ = Lib.byteCells (l ++ s) := by simp [Lib.byteCells, Lib.strCells]
  rw [e2] at h1
  exact ⟨by rw [e1], ⟨Or.inr h1, Nat.le_trans h.le h2.size⟩, h2, h3⟩
theorem bd_byte (B b : Nat) (l : List UInt8) (c : UInt8) (w : World) (h : Bd B b l w) (hl : l.length ≤ 1000000) :
    Calls Tryz.prog 97 #[.pointer (some ⟨b, 0, none⟩), .int .u8 c.toNat] w fun e w' => e = .returned .nilIface ∧ Bd B b (l ++ [c]) w' ∧ Below B w w' ∧ Lib.OthersKept 5 (some b) w w' := by
  refine (write_byte B b _ c.toNat w h.is (by simp [Lib.byteCells]; omega) h.le).mono ?_
  rintro e w' ⟨rfl, h1, h2, h3⟩
  have e2 : Lib.byteCells l ++ [Value.int .u8 c.toNat] = Lib.byteCells (l ++ [c]) := by simp [Lib.byteCells]
  rw [e2] at h1
  exact ⟨rfl, ⟨Or.inr h1, Nat.le_trans h.le h2.size⟩, h2, h3⟩

/-- A builder stays one, whatever is laid beside it. -/
theorem Bd.on {B b : Nat} {l : List UInt8} {w w' : World} (h : Bd B b l w) (k : Below w.heap.size w w') : Bd B b l w' := by
  have at' : ∀ p, Lib.BuilderAt 122 5 B b p (Lib.byteCells l) w → Lib.BuilderAt 122 5 B b p (Lib.byteCells l) w' := by
    rintro p ⟨hB, v, hb, hown, hne⟩
    have hlt : b < w.heap.size := (Array.getElem?_eq_some_iff.1 hb).1
    refine ⟨hB, v, by rw [k.block b hlt]; exact hb, hown.kept (row := none) ⟨k.os, k.tape, k.output, k.size, fun j hj _ => k.block j hj⟩ ?_, hne⟩
    cases hv : v.ownBlock with
    | none => exact Or.inl rfl
    | some g => exact Or.inr (by simp)
  exact ⟨h.is.imp (at' _) (at' _), Nat.le_trans h.le k.size⟩
/-- Cells of a box that is no row of bytes, kept by writes. -/
theorem ok_cell {w w' : World} {x b t : Nat} {cs : Array Value} {fz : Nat × Nat} (h : Lib.OthersKept 5 (some b) w w') (hx : w.heap[x]? = some (.cells cs t fz)) (hb : x ≠ b) (ht : t ≠ 5) : w'.heap[x]? = some (.cells cs t fz) :=
  h x _ hx (fun e => hb (by cases e; rfl)) (fun c f e => ht (by cases e; rfl))

end Go.Proofs.YtmlmdncepgcimaaGreatDoor.Stz

/- The walk of writeField. -/
namespace Go.Proofs.YtmlmdncepgcimaaGreatDoor.Stz
open Go.RowKit Go.Shelf Go.Sort

/-- A builder that is written, a field in its box beside it. -/
structure Wr (B b x : Nat) (f : Sm.F) (t : List UInt8) (w0 W : World) : Prop where
  bd : Bd B b t W
  bx : W.heap[x]? = some (.cells #[.string ⟨f.1.toArray⟩, .string ⟨f.2.toArray⟩] 52 (0, 0))
  ne : x ≠ b
  be : Below B w0 W
theorem Wr.c0 {B b x : Nat} {f : Sm.F} {t : List UInt8} {w0 W : World} (h : Wr B b x f t w0 W) : W.cell? ⟨x, 0, none⟩ = some (.string ⟨f.1.toArray⟩) := by rw [Lib.cell_of_heap h.bx]; rfl
theorem Wr.c1 {B b x : Nat} {f : Sm.F} {t : List UInt8} {w0 W : World} (h : Wr B b x f t w0 W) : W.cell? ⟨x, 1, none⟩ = some (.string ⟨f.2.toArray⟩) := by rw [Lib.cell_of_heap h.bx]; rfl
theorem Wr.on {B b x : Nat} {f : Sm.F} {t : List UInt8} {w0 W w' : World} (h : Wr B b x f t w0 W) (k : Below W.heap.size W w') : Wr B b x f t w0 w' :=
  ⟨h.bd.on k, by rw [k.block x (Array.getElem?_eq_some_iff.1 h.bx).1]; exact h.bx, h.ne, h.be.trans (k.mono h.bd.le)⟩
theorem Wr.str {B b x : Nat} {f : Sm.F} {t : List UInt8} {w0 W : World} (h : Wr B b x f t w0 W) (s : List UInt8) (ht : t.length ≤ 1000000) (hs : s.length ≤ 1000000) :
    Calls Tryz.prog 96 #[.pointer (some ⟨b, 0, none⟩), .string ⟨s.toArray⟩] W fun e w' => e = .returned (.tuple #[.int .i64 s.length, .nilIface]) ∧ Wr B b x f (t ++ s) w0 w' := by
  refine (bd_str B b t s W h.bd ht hs).mono ?_
  rintro e w' ⟨rfl, h1, h2, h3⟩
  exact ⟨rfl, h1, ok_cell h3 h.bx h.ne (by decide), h.ne, h.be.trans h2⟩
theorem Wr.byte {B b x : Nat} {f : Sm.F} {t : List UInt8} {w0 W : World} (h : Wr B b x f t w0 W) (c : UInt8) (ht : t.length ≤ 1000000) :
    Calls Tryz.prog 97 #[.pointer (some ⟨b, 0, none⟩), .int .u8 c.toNat] W fun e w' => e = .returned .nilIface ∧ Wr B b x f (t ++ [c]) w0 w' := by
  refine (bd_byte B b t c W h.bd ht).mono ?_
  rintro e w' ⟨rfl, h1, h2, h3⟩
  exact ⟨rfl, h1, ok_cell h3 h.bx h.ne (by decide), h.ne, h.be.trans h2⟩

theorem hp46 (x : List UInt8) (w : World) : Calls Tryz.prog 106 #[.string ⟨x.toArray⟩, .string ⟨#[46]⟩] w fun e w' => e = .returned (.bool (x.head? == some 46)) ∧ w' = w := by
  refine (Tryz.strings_HasPrefix ⟨x.toArray⟩ ⟨#[46]⟩ w).mono ?_
  rintro e w' ⟨rfl, rfl⟩
  refine ⟨ret_bool ?_, rfl⟩
  cases x with
  | nil => rfl
  | cons c t =>
    rw [Bool.eq_iff_iff]
    simp [Lib.hasPrefix]
    exact ⟨Eq.symm, Eq.symm⟩

theorem ft_cut {f : Sm.F} {x y : List UInt8} {b : Bool} (C : CutIs f.2 x y b) : Sm.ft f = f.1 ++ (58 :: (Sm.l0 x ++ (if b = true then (Sm.spl y).flatMap Sm.ln else []))) := by
  unfold Sm.ft Sm.vt
  rw [C.spl]
  cases b <;> simp
theorem lines_cut {l x y : List UInt8} {b : Bool} (C : CutIs l x y b) : (Sm.spl l).flatMap Sm.ln = Sm.ln x ++ (if b = true then (Sm.spl y).flatMap Sm.ln else []) := by
  rw [C.spl]; cases b <;> simp
theorem wlen {T a r : List UInt8} (h : T = a ++ r) (hT : T.length ≤ 1000000) : a.length ≤ 1000000 ∧ r.length ≤ 1000000 := by
  rw [h] at hT; simp at hT; omega

set_option maxHeartbeats 3200000 in
set_option maxRecDepth 100000 in
theorem wf_any (B b : Nat) (t : List UInt8) (f : Sm.F) (w : World) (h : Bd B b t w) (hT : (t ++ Sm.ft f).length ≤ 1000000) (hfl : f.1.length ≤ 1000000 ∧ f.2.length ≤ 1000000) :
    Calls Tryz.prog 168 #[.pointer (some ⟨b, 0, none⟩), fv f] w fun e w' => e = .returned (.tuple #[]) ∧ Bd B b (t ++ Sm.ft f) w' ∧ Below B w w' := by
  obtain ⟨T, hTe⟩ : ∃ T, T = t ++ Sm.ft f := ⟨_, rfl⟩
  rw [← hTe] at hT ⊢
  obtain ⟨x, y, q, C⟩ := cut_line f.2
  rw [ft_cut C] at hTe
  have HT := Lib.hid hTe
  have HTL := Lib.hid hT
  have hlt : b < w.heap.size := by
    rcases h.is with h1 | h1 <;> exact h1.lt
  have S0 : Wr B b w.heap.size f t w (w.alloc (.cells #[.string ⟨f.1.toArray⟩, .string ⟨f.2.toArray⟩] 52)) :=
    ⟨h.on ((Below.refl _ _).alloc (Nat.le_refl _) _), by simp [World.alloc, -World.alloc_eq], by omega, (Below.refl _ _).alloc h.le _⟩
  clear hTe hT h
  go_enter Tryz.func168, Tryz.ntmps168
  have hlen : t.length + f.1.length + 1 + (Sm.l0 x).length ≤ 1000000 := by
    have := HTL.out; rw [HT.out] at this; simp at this; omega
  have hxl : x.length ≤ 1000000 := by have := C.len; omega
  have hyl : y.length ≤ 1000000 := by
    cases hq : q with
    | true => have := C.less hq; omega
    | false => rw [C.nil hq]; simp
  have hcc := fun W => C.call W hfl.2
  have HCC := Lib.hid hcc
  clear hcc C
  have c0 := S0.c0
  go_wp2_with fail
  refine (S0.str f.1 (by omega) hfl.1).mono ?_
  rintro e w1 ⟨rfl, S1⟩
  go_wp2_with fail
  refine (S1.byte 58 (by simp; omega)).mono ?_
  rintro e w2 ⟨rfl, S2⟩
  have c1 := S2.c1
  go_wp2_with fail
  refine (HCC.out _).mono ?_
  rintro e w3 ⟨rfl, b3⟩
  have S3 := S2.on b3
  clear c0 c1 S0 S1 S2 b3 HCC
  cases x with
  | nil =>
    have HTA : Hid (T = (t ++ f.1 ++ [58] ++ [] ++ [10]) ++ (if q = true then (Sm.spl y).flatMap Sm.ln else [])) := by show T = _; rw [HT.out]; simp [Sm.l0]
    clear HT
    go_wp2_with fail
    refine (S3.str [] (by simp [Sm.l0] at hlen ⊢; omega) (by simp)).mono ?_
    rintro e w4 ⟨rfl, S4⟩
    go_wp2_with fail
    refine (S4.byte 10 (by simp [Sm.l0] at hlen ⊢; omega)).mono ?_
    rintro e w5 ⟨rfl, S5⟩
    have SA := S5
    have HA : Hid (T = (t ++ f.1 ++ [58] ++ [] ++ [10]) ++ (if q = true then (Sm.spl y).flatMap Sm.ln else [])) := HTA
    go_wp2_with fail
    go_loopw [4, 5, 6] (fun v4 v5 v6 W => ∃ (u y' : List UInt8) (q' : Bool) (a : List UInt8), v4 = .string ⟨u.toArray⟩ ∧ v5 = .string ⟨y'.toArray⟩ ∧ v6 = .bool q' ∧ y'.length ≤ 1000000 ∧ Wr B b w.heap.size f a w W ∧ Hid (T = a ++ (if q' = true then (Sm.spl y').flatMap Sm.ln else []))) (fun _ v5 v6 _ => match v6 with | .bool true => strLen v5 + 1 | _ => 0)
    case atStart => exact ⟨_, y, q, _, rfl, rfl, rfl, hyl, SA, HA⟩
    case round =>
      obtain ⟨u, y', q', a, rfl, rfl, rfl, hy', S', HA'⟩ := hrel
      cases q' with
      | false =>
        have hTa : T = a := by have := HA'.out; simpa using this
        go_wp2
        go_end0
        exact ⟨rfl, by rw [hTa]; exact S'.bd, S'.be⟩
      | true =>
        obtain ⟨x', z, q2, C'⟩ := cut_line y'
        have hTz : T = a ++ (Sm.ln x' ++ (if q2 = true then (Sm.spl z).flatMap Sm.ln else [])) := by
          have := HA'.out; rw [if_pos rfl, lines_cut C'] at this; exact this
        have HTZ := Lib.hid hTz
        have hal : a.length + (Sm.ln x').length ≤ 1000000 := by
          have := HTL.out; rw [hTz] at this; simp at this; omega
        have hxl : x'.length ≤ 1000000 := by have := C'.len; omega
        have hzl : z.length ≤ 1000000 := by
          cases hq2 : q2 with
          | true => have := C'.less hq2; omega
          | false => rw [C'.nil hq2]; simp
        have hme : Hid ((match Value.bool q2 with | .bool true => z.length + 1 | _ => 0) < y'.length + 1) := by
          cases hq2 : q2 with
          | true => have := C'.less hq2; show z.length + 1 < y'.length + 1; omega
          | false => show 0 < y'.length + 1; omega
        have hcc := C'.call wr hy'
        have HCC := Lib.hid hcc
        clear hcc C' hTz HA'
        go_wp2_with fail
        refine HCC.out.mono ?_
        rintro e wa ⟨rfl, ba⟩
        have Sa := S'.on ba
        cases hd : (x'.head? == some 46) with
        | true =>
          have hln : Sm.ln x' = [32] ++ ([46] ++ (x' ++ [10])) := by unfold Sm.ln; rw [if_pos (by simpa using hd)]; rfl
          rw [hln] at hal
          simp at hal
          have HTY : Hid (T = (a ++ [32] ++ [46] ++ x' ++ [10]) ++ (if q2 = true then (Sm.spl z).flatMap Sm.ln else [])) := by show T = _; rw [HTZ.out, hln]; simp
          have cP : ∀ W, Calls Tryz.prog 106 #[.string ⟨x'.toArray⟩, .string ⟨#[46]⟩] W fun e w' => e = .returned (.bool true) ∧ w' = W := fun W => by rw [← hd]; exact hp46 x' W
          clear hln
          go_wp2_with fail
          refine (Sa.byte 32 (by omega)).mono ?_
          rintro e wb ⟨rfl, Sb⟩
          go_wp2_with (go_at_call 106; refine (cP _).mono ?_; rintro x w' ⟨rfl, rfl⟩)
          refine (Sb.byte 46 (by simp; omega)).mono ?_
          rintro e wc ⟨rfl, Sc⟩
          go_wp2_with fail
          refine (Sc.str x' (by simp; omega) hxl).mono ?_
          rintro e wd ⟨rfl, Sd⟩
          go_wp2_with fail
          refine (Sd.byte 10 (by simp; omega)).mono ?_
          rintro e we ⟨rfl, Se⟩
          go_wp2_with fail
          exact ⟨⟨_, z, q2, _, rfl, rfl, rfl, hzl, Se, HTY⟩, hme.out⟩
        | false =>
          have hln : Sm.ln x' = [32] ++ (x' ++ [10]) := by unfold Sm.ln; rw [if_neg (by simpa using hd)]; rfl
          rw [hln] at hal
          simp at hal
          have HTY : Hid (T = (a ++ [32] ++ x' ++ [10]) ++ (if q2 = true then (Sm.spl z).flatMap Sm.ln else [])) := by show T = _; rw [HTZ.out, hln]; simp
          have cP : ∀ W, Calls Tryz.prog 106 #[.string ⟨x'.toArray⟩, .string ⟨#[46]⟩] W fun e w' => e = .returned (.bool false) ∧ w' = W := fun W => by rw [← hd]; exact hp46 x' W
          clear hln
          go_wp2_with fail
          refine (Sa.byte 32 (by omega)).mono ?_
          rintro e wb ⟨rfl, Sb⟩
          go_wp2_with (go_at_call 106; refine (cP _).mono ?_; rintro x w' ⟨rfl, rfl⟩)
          refine (Sb.str x' (by simp; omega) hxl).mono ?_
          rintro e wd ⟨rfl, Sd⟩
          go_wp2_with fail
          refine (Sd.byte 10 (by simp; omega)).mono ?_
          rintro e we ⟨rfl, Se⟩
          go_wp2_with fail
          exact ⟨⟨_, z, q2, _, rfl, rfl, rfl, hzl, Se, HTY⟩, hme.out⟩
  | cons c r =>
    obtain ⟨x, hx⟩ : ∃ x, x = c :: r := ⟨_, rfl⟩
    have hxe : x.isEmpty = false := by rw [hx]; rfl
    have hl0 : Sm.l0 x = [32] ++ (x ++ [10]) := by rw [hx]; simp [Sm.l0]
    rw [← hx] at hlen hxl HT ⊢
    rw [hl0] at hlen
    simp at hlen
    have HTA : Hid (T = (t ++ f.1 ++ [58] ++ [32] ++ x ++ [10]) ++ (if q = true then (Sm.spl y).flatMap Sm.ln else [])) := by show T = _; rw [HT.out, hl0]; simp
    clear HT hx hl0
    go_wp2_with fail
    refine (S3.byte 32 (by simp; omega)).mono ?_
    rintro e w4 ⟨rfl, S4⟩
    go_wp2_with fail
    refine (S4.str x (by simp; omega) hxl).mono ?_
    rintro e w5 ⟨rfl, S5⟩
    go_wp2_with fail
    refine (S5.byte 10 (by simp; omega)).mono ?_
    rintro e w6 ⟨rfl, S6⟩
    have SA := S6
    have HA : Hid (T = (t ++ f.1 ++ [58] ++ [32] ++ x ++ [10]) ++ (if q = true then (Sm.spl y).flatMap Sm.ln else [])) := HTA
    go_wp2_with fail
    go_loopw [4, 5, 6] (fun v4 v5 v6 W => ∃ (u y' : List UInt8) (q' : Bool) (a : List UInt8), v4 = .string ⟨u.toArray⟩ ∧ v5 = .string ⟨y'.toArray⟩ ∧ v6 = .bool q' ∧ y'.length ≤ 1000000 ∧ Wr B b w.heap.size f a w W ∧ Hid (T = a ++ (if q' = true then (Sm.spl y').flatMap Sm.ln else []))) (fun _ v5 v6 _ => match v6 with | .bool true => strLen v5 + 1 | _ => 0)
    case atStart => exact ⟨_, y, q, _, rfl, rfl, rfl, hyl, SA, HA⟩
    case round =>
      obtain ⟨u, y', q', a, rfl, rfl, rfl, hy', S', HA'⟩ := hrel
      cases q' with
      | false =>
        have hTa : T = a := by have := HA'.out; simpa using this
        go_wp2
        go_end0
        exact ⟨rfl, by rw [hTa]; exact S'.bd, S'.be⟩
      | true =>
        obtain ⟨x', z, q2, C'⟩ := cut_line y'
        have hTz : T = a ++ (Sm.ln x' ++ (if q2 = true then (Sm.spl z).flatMap Sm.ln else [])) := by
          have := HA'.out; rw [if_pos rfl, lines_cut C'] at this; exact this
        have HTZ := Lib.hid hTz
        have hal : a.length + (Sm.ln x').length ≤ 1000000 := by
          have := HTL.out; rw [hTz] at this; simp at this; omega
        have hxl : x'.length ≤ 1000000 := by have := C'.len; omega
        have hzl : z.length ≤ 1000000 := by
          cases hq2 : q2 with
          | true => have := C'.less hq2; omega
          | false => rw [C'.nil hq2]; simp
        have hme : Hid ((match Value.bool q2 with | .bool true => z.length + 1 | _ => 0) < y'.length + 1) := by
          cases hq2 : q2 with
          | true => have := C'.less hq2; show z.length + 1 < y'.length + 1; omega
          | false => show 0 < y'.length + 1; omega
        have hcc := C'.call wr hy'
        have HCC := Lib.hid hcc
        clear hcc C' hTz HA'
        go_wp2_with fail
        refine HCC.out.mono ?_
        rintro e wa ⟨rfl, ba⟩
        have Sa := S'.on ba
        cases hd : (x'.head? == some 46) with
        | true =>
          have hln : Sm.ln x' = [32] ++ ([46] ++ (x' ++ [10])) := by unfold Sm.ln; rw [if_pos (by simpa using hd)]; rfl
          rw [hln] at hal
          simp at hal
          have HTY : Hid (T = (a ++ [32] ++ [46] ++ x' ++ [10]) ++ (if q2 = true then (Sm.spl z).flatMap Sm.ln else [])) := by show T = _; rw [HTZ.out, hln]; simp
          have cP : ∀ W, Calls Tryz.prog 106 #[.string ⟨x'.toArray⟩, .string ⟨#[46]⟩] W fun e w' => e = .returned (.bool true) ∧ w' = W := fun W => by rw [← hd]; exact hp46 x' W
          clear hln
          go_wp2_with fail
          refine (Sa.byte 32 (by omega)).mono ?_
          rintro e wb ⟨rfl, Sb⟩
          go_wp2_with (go_at_call 106; refine (cP _).mono ?_; rintro x w' ⟨rfl, rfl⟩)
          refine (Sb.byte 46 (by simp; omega)).mono ?_
          rintro e wc ⟨rfl, Sc⟩
          go_wp2_with fail
          refine (Sc.str x' (by simp; omega) hxl).mono ?_
          rintro e wd ⟨rfl, Sd⟩
          go_wp2_with fail
          refine (Sd.byte 10 (by simp; omega)).mono ?_
          rintro e we ⟨rfl, Se⟩
          go_wp2_with fail
          exact ⟨⟨_, z, q2, _, rfl, rfl, rfl, hzl, Se, HTY⟩, hme.out⟩
        | false =>
          have hln : Sm.ln x' = [32] ++ (x' ++ [10]) := by unfold Sm.ln; rw [if_neg (by simpa using hd)]; rfl
          rw [hln] at hal
          simp at hal
          have HTY : Hid (T = (a ++ [32] ++ x' ++ [10]) ++ (if q2 = true then (Sm.spl z).flatMap Sm.ln else [])) := by show T = _; rw [HTZ.out, hln]; simp
          have cP : ∀ W, Calls Tryz.prog 106 #[.string ⟨x'.toArray⟩, .string ⟨#[46]⟩] W fun e w' => e = .returned (.bool false) ∧ w' = W := fun W => by rw [← hd]; exact hp46 x' W
          clear hln
          go_wp2_with fail
          refine (Sa.byte 32 (by omega)).mono ?_
          rintro e wb ⟨rfl, Sb⟩
          go_wp2_with (go_at_call 106; refine (cP _).mono ?_; rintro x w' ⟨rfl, rfl⟩)
          refine (Sb.str x' (by simp; omega) hxl).mono ?_
          rintro e wd ⟨rfl, Sd⟩
          go_wp2_with fail
          refine (Sd.byte 10 (by simp; omega)).mono ?_
          rintro e we ⟨rfl, Se⟩
          go_wp2_with fail
          exact ⟨⟨_, z, q2, _, rfl, rfl, rfl, hzl, Se, HTY⟩, hme.out⟩

theorem txt_take {l : List Sm.F} {k : Nat} (hk : k < l.length) : Sm.txt (l.take (k + 1)) = Sm.txt (l.take k) ++ Sm.ft l[k] := by
  unfold Sm.txt; rw [List.take_succ_eq_append_getElem hk, List.flatMap_append]; simp
theorem txt_len {l : List Sm.F} (k : Nat) : (Sm.txt (l.take k)).length ≤ (Sm.txt l).length := by
  have : Sm.txt l = Sm.txt (l.take k) ++ Sm.txt (l.drop k) := by unfold Sm.txt; rw [← List.flatMap_append, List.take_append_drop]
  rw [this]; simp

set_option maxHeartbeats 1600000 in
set_option maxRecDepth 100000 in
theorem wt_row (b o c : Nat) (l : List Sm.F) (w : World) (h : Fl w b o l) (hz : Sz l) (hT : (Sm.txt l).length ≤ 1000000) :
    Calls Tryz.prog 120 #[.slice (some ⟨b, o, none⟩) l.length c] w fun e w' => e = .returned (.string ⟨(Sm.txt l).toArray⟩) ∧ Below w.heap.size w w' := by
  have hn := hz.n
  have HZ := Lib.hid hz
  clear hz
  have HT := Lib.hid hT
  clear hT
  have b0 : Bd w.heap.size w.heap.size [] (w.alloc (.cells #[.pointer none, .slice none 0 0] 122)) := ⟨Lib.fresh_isBuilder 122 5 w, by simp⟩
  have bw0 : Below w.heap.size w (w.alloc (.cells #[.pointer none, .slice none 0 0] 122)) := (Below.refl _ _).alloc (Nat.le_refl _) _
  go_enter Tryz.func120, Tryz.ntmps120
  go_wp2
  go_loopw [8] (fun i W => ∃ k : Nat, k ≤ l.length ∧ i = .int .i64 k ∧ Below w.heap.size w W ∧ Bd w.heap.size w.heap.size (Sm.txt (l.take k)) W) (fun i _ => l.length - (intOf i).toNat)
  case atStart => exact ⟨0, Nat.zero_le _, rfl, bw0, b0⟩
  case round =>
    obtain ⟨k, hk, rfl, hW, hB⟩ := hrel
    by_cases hlt : k < l.length
    · have hF : Fl wr b o l := ⟨Nat.lt_of_lt_of_le h.lt hW.size, fun i hi => by rw [hW.cell h.lt]; exact h.c0 i hi, fun i hi => by rw [hW.cell h.lt]; exact h.c1 i hi⟩
      have c0 := hF.c0 k hlt
      have c1 := hF.c1 k hlt
      have hfs := HZ.out.s l[k] (List.getElem_mem hlt)
      have bA : Below wr.heap.size wr (wr.alloc (.cells #[.string ⟨l[k].1.toArray⟩, .string ⟨l[k].2.toArray⟩] 52)) := (Below.refl _ _).alloc (Nat.le_refl _) _
      have hB2 := hB.on bA
      have cW := wf_any w.heap.size w.heap.size (Sm.txt (l.take k)) l[k] _ hB2 (by rw [← txt_take hlt]; have := txt_len (l := l) (k + 1); have := HT.out; omega) (by omega)
      rw [← txt_take hlt] at cW
      have HC := Lib.hid cW
      clear cW hB2
      go_wp2_with fail
      refine HC.out.mono ?_
      rintro e w1 ⟨rfl, hB1, b1⟩
      go_wp2_with fail
      exact ⟨⟨k + 1, hlt, by go_num, (hW.alloc hW.size _).trans b1, hB1⟩, by simp [intOf]; omega⟩
    · have hkl : k = l.length := by omega
      subst hkl
      rw [List.take_length] at hB
      go_wp2_with fail
      refine (Tryz.Builder_String_any w.heap.size w.heap.size _ _ hB.is hB.le).mono ?_
      rintro e w1 ⟨rfl, b1⟩
      go_wp2
      go_ret
      exact ⟨rfl, hW.trans b1⟩

theorem wt_nil (A : Option Addr) (c : Nat) (w : World) : Calls Tryz.prog 120 #[.slice A 0 c] w fun e w' => e = .returned (.string ⟨#[]⟩) ∧ Below w.heap.size w w' := by
  have b0 : Bd w.heap.size w.heap.size [] (w.alloc (.cells #[.pointer none, .slice none 0 0] 122)) := ⟨Lib.fresh_isBuilder 122 5 w, by simp⟩
  have bw0 : Below w.heap.size w (w.alloc (.cells #[.pointer none, .slice none 0 0] 122)) := (Below.refl _ _).alloc (Nat.le_refl _) _
  go_enter Tryz.func120, Tryz.ntmps120
  go_wp2
  refine wp_loop_rounds 1 ?_
  rw [rounds_succ]
  go_wp2_with fail
  refine (Tryz.Builder_String_any w.heap.size w.heap.size _ _ b0.is b0.le).mono ?_
  rintro e w1 ⟨rfl, b1⟩
  go_wp2
  go_ret
  exact ⟨rfl, bw0.trans b1⟩
theorem wt_any (v : Value) (l : List Sm.F) (w : World) (h : Sl w v l) (hz : Sz l) (hT : (Sm.txt l).length ≤ 1000000) :
    Calls Tryz.prog 120 #[v] w fun e w' => e = .returned (.string ⟨(Sm.txt l).toArray⟩) ∧ Below w.heap.size w w' := by
  rcases h.is with ⟨rfl, A, c, rfl⟩ | ⟨b, o, c, rfl, _, hf⟩
  · exact wt_nil A c w
  · exact wt_row b o c l w hf hz hT

end Go.Proofs.YtmlmdncepgcimaaGreatDoor.Stz

/- A text cut at line feeds, as strings.Split tells it; how long texts are. -/
namespace Go.Proofs.YtmlmdncepgcimaaGreatDoor.Stz

theorem split_at (n : Nat) : ∀ l : List UInt8, l.length ≤ n → Lib.splitB ⟨#[10]⟩ 0 (Lib.countB ⟨l.toArray⟩ ⟨#[10]⟩) ⟨l.toArray⟩ = (Sm.spl l).map (fun x => ByteArray.mk x.toArray) := by
  induction n with
  | zero =>
    intro l hl
    obtain rfl : l = [] := List.length_eq_zero_iff.1 (by omega)
    have hi : Lib.indexB ⟨([] : List UInt8).toArray⟩ ⟨#[10]⟩ = -1 := rfl
    rw [Lib.splitB_miss _ _ _ _ hi]; rfl
  | succ n ih =>
    intro l hl
    have hix : Lib.indexB ⟨l.toArray⟩ ⟨#[10]⟩ = Lib.indexByte l 10 := by
      rw [← Lib.index_one]
    rcases Sm.fc_spl l with ⟨h1, h2⟩ | ⟨k, hk, h1, h2⟩
    · rw [Lib.splitB_miss _ _ _ _ (by rw [hix, h1]), h2]; rfl
    · have e1 : (ByteArray.mk l.toArray).extract (k + (ByteArray.mk #[10]).size) (ByteArray.mk l.toArray).size = ⟨(l.drop (k + 1)).toArray⟩ := by
        apply ByteArray.ext; simp [ByteArray.size]; exact List.take_of_length_le (by simp)
      have e2 : (ByteArray.mk l.toArray).extract 0 (k + 0) = ⟨(l.take k).toArray⟩ := by apply ByteArray.ext; simp
      rw [Lib.countB_hit _ _ k (by decide) (by rw [hix, h1]), Nat.add_comm 1, Lib.splitB_hit _ _ _ _ k (by rw [hix, h1]), e1, e2, ih _ (by simp; omega), h2]
      rfl
theorem split_eq (l : List UInt8) : Lib.splitB ⟨#[10]⟩ 0 (Lib.countB ⟨l.toArray⟩ ⟨#[10]⟩) ⟨l.toArray⟩ = (Sm.spl l).map (fun x => ByteArray.mk x.toArray) := split_at _ l (Nat.le_refl _)
theorem split_n (l : List UInt8) : Lib.countB ⟨l.toArray⟩ ⟨#[10]⟩ + 1 = (Sm.spl l).length := by
  rw [← Lib.splitB_all ⟨#[10]⟩ (by decide) 0 _ _ rfl, split_eq, List.length_map]

namespace Sm
theorem spl_sum (l : List UInt8) : ((spl l).map fun x => x.length + 3).sum ≤ 3 * l.length + 3 ∧ (spl l).length ≤ l.length + 1 := by
  induction l with
  | nil => simp [spl]
  | cons c t ih =>
    unfold spl
    split
    · simp; omega
    · split
      · simp; omega
      · rename_i x r hx
        rw [hx] at ih
        simp at ih ⊢; omega
theorem l0_len (x : List UInt8) : (l0 x).length ≤ x.length + 3 := by unfold l0; split <;> simp
theorem ln_len (x : List UInt8) : (ln x).length ≤ x.length + 3 := by unfold ln; split <;> simp
theorem lns_len (r : List (List UInt8)) : (r.flatMap ln).length ≤ (r.map fun x => x.length + 3).sum := by
  induction r with
  | nil => simp
  | cons x r ih => have := ln_len x; simp at ih ⊢; omega
theorem vt_len (v : List UInt8) : (vt v).length ≤ 3 * v.length + 3 := by
  have h := (spl_sum v).1
  unfold vt
  cases hs : spl v with
  | nil => simp
  | cons x r =>
    rw [hs] at h
    have h1 := l0_len x
    have h2 := lns_len r
    simp at h h2 ⊢; omega
theorem ft_len (f : F) : (ft f).length ≤ f.1.length + 3 * f.2.length + 4 := by
  have := vt_len f.2
  unfold ft; simp; omega
theorem txt_le (l : List F) (n : Nat) (h : ∀ f ∈ l, f.1.length ≤ 100 ∧ f.2.length ≤ 4000) (hn : l.length ≤ n) : (txt l).length ≤ n * 12104 := by
  induction l generalizing n with
  | nil => simp [txt]
  | cons f r ih =>
    cases n with
    | zero => simp at hn
    | succ n =>
      have h1 := h f (by simp)
      have h2 := ft_len f
      have h3 := ih n (fun g hg => h g (by simp [hg])) (by simp at hn; omega)
      unfold txt at h3 ⊢
      rw [List.flatMap_cons, List.length_append]; omega
end Sm
end Go.Proofs.YtmlmdncepgcimaaGreatDoor.Stz

/- The walks of stanza's Right and Print. -/
namespace Go.Proofs.YtmlmdncepgcimaaGreatDoor.Stz
open Go.RowKit Go.Shelf Go.Sort

theorem rf_any (v : Value) (l : List Sm.F) (w : World) (h : Sl w v l) (hz : Sz l) : Calls Tryz.prog 119 #[v] w fun e w' => e = .returned (.bool (rf l)) ∧ Below w.heap.size w w' := by
  rcases h.is with ⟨rfl, A, c, rfl⟩ | ⟨b, o, c, rfl, hc, hf⟩
  · exact (rf_nil A c w).mono fun _ _ ⟨he, hw⟩ => ⟨he, by rw [hw]; exact Below.refl _ _⟩
  · by_cases h1 : 1 ≤ l.length
    · by_cases h40 : l.length ≤ 40
      · rw [show rf l = Sm.foks l from by simp [rf, h1, h40]]
        exact rf_row b o c l w hf hz hc h1 h40
      · rw [show rf l = false from by simp [rf, h40]]
        exact (rf_long _ _ c w (by omega) hz.n).mono fun _ _ ⟨he, hw⟩ => ⟨he, by rw [hw]; exact Below.refl _ _⟩
    · obtain rfl : l = [] := List.length_eq_zero_iff.1 (by omega)
      exact (rf_nil _ c w).mono fun _ _ ⟨he, hw⟩ => ⟨he, by rw [hw]; exact Below.refl _ _⟩

theorem txt_small {l : List Sm.F} (hz : Sz l) : (Sm.txt l).length ≤ 1000000 := by
  have := Sm.txt_le l 60 hz.s hz.n
  omega
theorem rgt_eq (l : List Sm.F) : Sm.rgt l = (rf l && decide ((Sm.txt l).length ≤ 4000)) := rfl

set_option maxHeartbeats 800000 in
theorem right_any (v : Value) (l : List Sm.F) (w : World) (h : Sl w v l) (hz : Sz l) : Calls Tryz.prog 49 #[v] w fun e w' => e = .returned (.bool (Sm.rgt l)) ∧ Below w.heap.size w w' := by
  rw [rgt_eq]
  have hts := txt_small hz
  obtain ⟨t, ht⟩ : ∃ t, t = Sm.txt l := ⟨_, rfl⟩
  have cT := fun W hW => wt_any v l W hW hz hts
  rw [← ht] at cT hts ⊢
  have cR := fun W hW => rf_any v l W hW hz
  have HS := Lib.hid h
  have HT := Lib.hid cT
  cases hr : rf l with
  | false =>
    rw [hr] at cR
    have HR := Lib.hid cR
    clear cR cT h hr hz ht
    go_enter Tryz.func49, Tryz.ntmps49
    go_wp2_with fail
    refine (HR.out _ HS.out).mono ?_
    rintro e w1 ⟨rfl, b1⟩
    go_wp2
    go_ret
    exact ⟨rfl, b1⟩
  | true =>
    rw [hr] at cR
    have HR := Lib.hid cR
    clear cR cT h hr hz ht
    go_enter Tryz.func49, Tryz.ntmps49
    go_wp2_with fail
    refine (HR.out _ HS.out).mono ?_
    rintro e w1 ⟨rfl, b1⟩
    go_wp2_with fail
    refine (HT.out _ (HS.out.on b1)).mono ?_
    rintro e w2 ⟨rfl, b2⟩
    go_wp2
    go_ret
    exact ⟨ret_bool (by rw [Bool.eq_iff_iff]; simp; omega), onn b1 b2⟩

def prVal (l : List Sm.F) (er : Value) (ok : Value) : Value := if Sm.rgt l = true then .tuple #[.string ⟨(Sm.txt l).toArray⟩, ok] else .tuple #[.string ⟨#[]⟩, er]

set_option maxHeartbeats 800000 in
theorem print_any (v : Value) (l : List Sm.F) (w : World) (h : Sl w v l) (hz : Sz l) : Calls Tryz.prog 95 #[v] w fun e w' => e = .returned (prVal l (.iface 32 (.int .i64 1)) .nilIface) ∧ Below w.heap.size w w' := by
  have hts := txt_small hz
  have cT := fun W hW => wt_any v l W hW hz hts
  have cR := fun W hW => right_any v l W hW hz
  have HS := Lib.hid h
  unfold prVal
  cases hr : Sm.rgt l with
  | false =>
    rw [hr] at cR
    have HR := Lib.hid cR
    clear cR cT h hr hz hts
    go_enter Tryz.func95, Tryz.ntmps95
    go_wp2_with fail
    refine (HR.out _ HS.out).mono ?_
    rintro e w1 ⟨rfl, b1⟩
    go_wp2
    go_ret2
    exact ⟨rfl, b1⟩
  | true =>
    rw [hr] at cR
    obtain ⟨t, ht⟩ : ∃ t, t = Sm.txt l := ⟨_, rfl⟩
    rw [← ht] at cT hts ⊢
    have HR := Lib.hid cR
    have HT := Lib.hid cT
    clear cR cT h hr hz ht
    go_enter Tryz.func95, Tryz.ntmps95
    go_wp2_with fail
    refine (HR.out _ HS.out).mono ?_
    rintro e w1 ⟨rfl, b1⟩
    go_wp2_with fail
    refine (HT.out _ (HS.out.on b1)).mono ?_
    rintro e w2 ⟨rfl, b2⟩
    go_wp2
    go_ret2
    exact ⟨rfl, onn b1 b2⟩

end Go.Proofs.YtmlmdncepgcimaaGreatDoor.Stz
