/- The walks of put, drop, fits. -/
import Derived.Test.YtlldfmnoidndmaaGreatDoorMw
import Derived.OrdersHeld
namespace Go.Proofs.YtlldfmnoidndmaaGreatDoor.Dsk
open Go.RowKit Go.Sort Go.Maps

theorem own_tight {α : Type} {f : α → Value} {w : World} {m n : Nat} {L : Kv α} (h : w.ownsMap Tryz.prog 9 Rv m n (toD f L)) : w.ownsMap Tryz.prog 9 Rv m L.length (toD f L) := by
  obtain ⟨es, cl, h1, h2, h3, h4⟩ := h
  refine ⟨es, cl, h1, h2, ?_, h4⟩
  have e := congrArg Maps.size h4
  rw [toD_size] at e
  rw [e]
  simp [Maps.size, length_sorted]
abbrev eno (x : Ent) : Obj := .cells #[.string ⟨x.now.toArray⟩, .string ⟨(x.sf.getD []).toArray⟩, .bool x.sf.isSome] 120

theorem eqm_some (m : Nat) (W : World) : Sem.run Tryz.prog (binOp BinOp.eql 29 (Value.map (some m)) (Value.map none)) W = .ok (.bool false) W := by kernel_rfl
theorem eqm_none (W : World) : Sem.run Tryz.prog (binOp BinOp.eql 29 (Value.map none) (Value.map none)) W = .ok (.bool true) W := by kernel_rfl
theorem fld73 (s t : ByteArray) (z : Bool) (W : World) : Sem.run Tryz.prog (Instr.field 120 (.agg #[.string s, .string t, .bool z]) 0) W = .ok (.string s) W := by kernel_rfl
theorem wpOp_go {P : Program} {ops : Array Oper} {Q : Exit → Act → World → Prop} {i : Nat} {o : Oper} {K : Act → World → Prop} {a : Act} {w : World} (hi : ops[i]? = some o) (hg : o.guard = none) (h : o.wp P a w K Q) : wpOp P ops Q i K a w := by
  unfold wpOp
  simp only [hi]
  rw [if_pos (by simp [Region.wanted, hg])]
  exact .inl h
/-- What the last region of put reads. -/
structure Ps (b m bx : Nat) (x : Ent) (W : World) : Prop where
  c0 : W.cell? ⟨b, 0, none⟩ = some (.map (some m))
  e0 : W.cell? ⟨bx, 0, none⟩ = some (.string ⟨x.now.toArray⟩)
  e1 : W.cell? ⟨bx, 1, none⟩ = some (.string ⟨(x.sf.getD []).toArray⟩)
  e2 : W.cell? ⟨bx, 2, none⟩ = some (.bool x.sf.isSome)
theorem Ps.on {b m bx : Nat} {x : Ent} {W W' : World} (h : Ps b m bx x W) (k : Below W.heap.size W W') : Ps b m bx x W' :=
  ⟨by rw [k.cell (block_lt_of_cell h.c0)]; exact h.c0, by rw [k.cell (block_lt_of_cell h.e0)]; exact h.e0, by rw [k.cell (block_lt_of_cell h.e1)]; exact h.e1, by rw [k.cell (block_lt_of_cell h.e2)]; exact h.e2⟩
theorem ps_of {b m bx : Nat} {x : Ent} {W : World} {n : Int} {e : Bool} {c : Int} {bd : Bool} {r : Int} (h : W.heap[b]? = some (dko (some m) n e c bd r)) (hx : W.heap[bx]? = some (eno x)) : Ps b m bx x W :=
  ⟨(dc_of h).c0, by simp [World.cell?, hx], by simp [World.cell?, hx], by simp [World.cell?, hx]⟩
theorem nb0 (w : World) (o : Obj) : (w.alloc o).heap[w.heap.size]? = some o := by
  show (w.heap.push o)[w.heap.size]? = some o
  simp
theorem Kp.mono {X Y : Nat → Prop} {w w' : World} (h : Kp X w w') (hY : ∀ k, X k → Y k) : Kp Y w w' := ⟨h.os, h.tape, h.output, h.size, fun k hk hx => h.block k hk fun h1 => hx (hY k h1)⟩
theorem ent_len (k : List UInt8) (L : Kv Ent) : (ent k L).now.length = olen nl k L := by
  unfold ent olen
  cases lkL k L <;> rfl
theorem own_kp {α : Type} {f : α → Value} {X : Nat → Prop} {w w' : World} {m n : Nat} {L : Kv α} (h : w.ownsMap Tryz.prog 9 Rv m n (toD f L)) (k : Kp X w w') (hm : ¬ X m) : w'.ownsMap Tryz.prog 9 Rv m n (toD f L) := by
  have hlt := h.lt
  obtain ⟨es, cl, h1, h2⟩ := h
  exact ⟨es, cl, (k.block m hlt hm).trans h1, h2⟩
theorem ne_map {w : World} {b m n : Nat} {mb : Option Nat} {t : Int} {e : Bool} {c : Int} {bd : Bool} {r : Int} {D : DataW Value} (h : w.heap[b]? = some (dko mb t e c bd r)) (hm : w.ownsMap Tryz.prog 9 Rv m n D) : m ≠ b := fun e1 => by
  obtain ⟨es, cl, h1, _⟩ := hm
  rw [e1, h] at h1; cases h1
/-- A map that it was, or a new one. -/
structure Mm (w : World) (mb : Option Nat) (m : Nat) : Prop where
  is : mb = some m ∨ w.heap.size ≤ m
/-- A disk behind put. -/
structure Pu (b : Nat) (mb : Option Nat) (L : Kv Ent) (e : Bool) (c : Int) (bd : Bool) (r : Int) (w w' : World) : Prop where
  is : ∃ m, PD w' b (some m) L e c bd r ∧ Mm w mb m
  kp : Kp (DX b mb) w w'
theorem und23 : Tryz.prog.underlying 29 = some (.map 9 120) := Tryz.underlying29

set_option maxHeartbeats 3200000 in
set_option maxRecDepth 100000 in
theorem put_any (b : Nat) (mb : Option Nat) (L : Kv Ent) (e : Bool) (c : Int) (bd : Bool) (r : Int) (k : List UInt8) (x : Ent) (w : World) (h : PD w b mb L e c bd r) (hk : k.length ≤ 1000000) (hT : tot nl L ≤ 1000000000) (hx : x.now.length ≤ 1000000) (hn : L.length ≤ 1000000) :
    Calls Tryz.prog 148 #[.pointer (some ⟨b, 0, none⟩), .string ⟨k.toArray⟩, pv x] w fun z w' => z = .returned (.tuple #[]) ∧ Pu b mb (putL k x L) e c bd r w w' := by
  have hd := dc_of h.blk
  obtain ⟨hlt, c0, c1, c2, c3, c4, c5, f0, f1, f2, f3, f4, f5⟩ := hd
  have hS := h.srt
  obtain ⟨y, hye⟩ : ∃ y, y = ent k L := ⟨_, rfl⟩
  have hyl : y.now.length ≤ 1000000000 := by
    rw [hye, ent_len]
    have := olen_le nl k hS
    omega
  have HY := Lib.hid hye
  have HS := Lib.hid hS
  clear hye hS
  cases mb
  case' some m =>
    have hK0 : Kp (DX b (some m)) w (w.alloc (eno x)) := (Kp.refl _ _).alloc _
    have hB0 : (w.alloc (eno x)).heap[b]? = some (dko (some m) (tot nl L : Int) e c bd r) := (Below.heap_alloc _ _ b hlt).trans h.blk
    have hO0 : (w.alloc (eno x)).ownsMap Tryz.prog 9 Rv m L.length (toD pv L) := (h.map m rfl).alloc _
    have hX0 : (w.alloc (eno x)).heap[w.heap.size]? = some (eno x) := nb0 _ _
    have hm0 : Mm w (some m) m := ⟨.inl rfl⟩
    have hmw : w.heap.size ≠ m := fun e1 => by have := (h.map m rfl).lt; omega
    have hE := eqm_some m
    clear h
    unfold pv
    go_enter Tryz.func148, Tryz.ntmps148
    go_wp2_with fail
    clear c0 c1 c2 c3 c4 c5 f0 f1 f2 f3 f4 f5 hE
    generalize w.alloc (eno x) = W0 at hK0 hB0 hO0 hX0 ⊢
  case' none =>
    have HL := Lib.hid (h.nil rfl)
    have hmm := @run_makeMap Tryz.prog
    have hE := eqm_none
    unfold pv
    go_enter Tryz.func148, Tryz.ntmps148
    go_wp2_with fail
    have hK0 : Kp (DX b none) w (((w.setCell ⟨b, 0, none⟩ (.map (some (w.heap.size + 1)))).alloc (eno x)).alloc (.map #[] 0)) := ((kp1.mono (Y := DX b none) fun _ h => .inl h).alloc _).alloc _
    have hB0 : (((w.setCell ⟨b, 0, none⟩ (.map (some (w.heap.size + 1)))).alloc (eno x)).alloc (.map #[] 0)).heap[b]? = some (dko (some (w.heap.size + 1)) (tot nl L : Int) e c bd r) := by
      rw [Below.heap_alloc _ _ b (by simp; omega), Below.heap_alloc _ _ b (by simpa using hlt)]
      exact heap_set h.blk
    have hO0 : (((w.setCell ⟨b, 0, none⟩ (.map (some (w.heap.size + 1)))).alloc (eno x)).alloc (.map #[] 0)).ownsMap Tryz.prog 9 Rv (w.heap.size + 1) L.length (toD pv L) := by
      rw [HL.out]
      have := World.ownsMap_made ((w.setCell ⟨b, 0, none⟩ (.map (some (w.heap.size + 1)))).alloc (eno x)) Tryz.prog 9 Rv
      simpa [toD] using this
    have hX0 : (((w.setCell ⟨b, 0, none⟩ (.map (some (w.heap.size + 1)))).alloc (eno x)).alloc (.map #[] 0)).heap[w.heap.size]? = some (eno x) := by
      rw [Below.heap_alloc _ _ w.heap.size (by simp)]
      have := nb0 (w.setCell ⟨b, 0, none⟩ (.map (some (w.heap.size + 1)))) (eno x)
      rwa [World.size_setCell] at this
    have hm0 : Mm w none (w.heap.size + 1) := ⟨.inr (by omega)⟩
    have hmw : w.heap.size ≠ w.heap.size + 1 := by omega
    clear h hE hmm c0 c1 c2 c3 c4 c5 f0 f1 f2 f3 f4 f5
    generalize ((w.setCell ⟨b, 0, none⟩ (.map (some (w.heap.size + 1)))).alloc (eno x)).alloc (.map #[] 0) = W0 at hK0 hB0 hO0 hX0 ⊢
    clear HL
    generalize w.heap.size + 1 = m at hB0 hO0 hm0 hmw ⊢
  all_goals
    have hy := (look_own (hO0.drew) k hk).1
    rw [← HY.out] at hy
    have hF := fun W => fld73 ⟨y.now.toArray⟩ ⟨(y.sf.getD []).toArray⟩ y.sf.isSome W
    unfold pv at hy
    have hd := dc_of hB0
    have hl0 := hd.lt
    have c0 := hd.c0
    have c1 := hd.c1
    have f1 := hd.f1
    have x0 : W0.cell? ⟨w.heap.size, 0, none⟩ = some (.string ⟨x.now.toArray⟩) := by simp [World.cell?, hX0]
    have HB0 := Lib.hid hB0
    have HX0 := Lib.hid hX0
    have HO0 := Lib.hid hO0
    have HK0 := Lib.hid hK0
    clear hd hB0 hX0 hO0 hK0
    go_region
    have hW1 : Kp (fun k => k = b) W0 (W0.setCell ⟨b, 1, none⟩ (.int .i64 ((tot nl L : Int) + ((x.now.length : Int) - (y.now.length : Int))))).drew := ⟨rfl, rfl, rfl, kp1.size, kp1.block⟩
    have hB1 : (W0.setCell ⟨b, 1, none⟩ (.int .i64 ((tot nl L : Int) + ((x.now.length : Int) - (y.now.length : Int))))).drew.heap[b]? = some (dko (some m) ((tot nl L : Int) + ((x.now.length : Int) - (y.now.length : Int))) e c bd r) := heap_set (i := 1) (u := .int .i64 ((tot nl L : Int) + ((x.now.length : Int) - (y.now.length : Int)))) HB0.out
    have hX1 : (W0.setCell ⟨b, 1, none⟩ (.int .i64 ((tot nl L : Int) + ((x.now.length : Int) - (y.now.length : Int))))).drew.heap[w.heap.size]? = some (eno x) := (hW1.block _ (Array.getElem?_eq_some_iff.1 HX0.out).1 (by omega)).trans HX0.out
    have lc := ps_of hB1 hX1
    generalize (W0.setCell ⟨b, 1, none⟩ (.int .i64 ((tot nl L : Int) + ((x.now.length : Int) - (y.now.length : Int))))).drew = W1 at lc hW1 hB1 hX1 ⊢
    clear c0 c1 f1 hy hF x0 hl0
    go_wp2_with fail
    have bd1 := (Below.refl W1.heap.size W1).drew
    have lc1 := lc.on bd1
    have cC := clone_any k W1.drew hk
    refine wp_region_held (S := Ps b m w.heap.size x) (by kernel_rfl) ?_
    refine wpAnyH_take (i := 0) (v := .pointer (some ⟨b, 0, none⟩)) rfl (by kernel_rfl) (by kernel_rfl) (by kernel_rfl) (fun _ _ _ h => h) (.inl ⟨rfl, fun w' _ => by simp [go_sem]⟩) lc1 ?_
    refine wpAnyH_take (i := 1) (v := .pointer (some ⟨b, 0, none⟩)) rfl (by kernel_rfl) (by kernel_rfl) (by kernel_rfl) (fun _ _ _ h => h) (.inl ⟨rfl, fun w' _ => by simp [go_sem]⟩) lc1 ?_
    refine wpAnyH_take (i := 2) (v := .pointer (some ⟨b, 0, none⟩)) rfl (by kernel_rfl) (by kernel_rfl) (by kernel_rfl) (fun _ _ _ h => h) (.inl ⟨rfl, fun w' _ => by simp [go_sem]⟩) lc1 ?_
    refine wpAnyH_take (i := 3) (v := .map (some m)) rfl (by kernel_rfl) (by kernel_rfl) (by kernel_rfl) (fun _ _ _ h => h) (.inl ⟨rfl, fun w' hw => by have h1 := hw.c0; simp [go_sem, h1]⟩) lc1 ?_
    refine wpAnyH_take (i := 4) (v := .string ⟨k.toArray⟩) rfl (by kernel_rfl) (by kernel_rfl) (by kernel_rfl) (fun _ _ _ h => h) (.inl ⟨rfl, fun w' _ => by simp [go_sem]⟩) lc1 ?_
    refine wpAnyH_take (i := 6) (v := pv x) rfl (by kernel_rfl) (by kernel_rfl) (by kernel_rfl) (fun _ _ _ h => h) (.inl ⟨rfl, fun w' hw => by have h1 := hw.e0; have h2 := hw.e1; have h3 := hw.e2; simp [go_sem, h1, h2, h3, pv]⟩) lc1 ?_
    refine wpAnyH_all (rs := [5]) (by kernel_rfl) (by simp) fun j hj => ?_
    obtain rfl : j = 5 := by simpa using hj
    refine wpOp_go rfl rfl ?_
    unfold Oper.wp
    simp [go_sem]
    refine cC.mono ?_
    rintro z w2 ⟨rfl, b2⟩
    have lc2 := lc1.on b2
    refine ⟨lc2, ?_⟩
    refine wpAnyH_all (rs := [7]) (by kernel_rfl) (by simp) fun j hj => ?_
    obtain rfl : j = 7 := by simpa using hj
    refine wpOp_go rfl rfl ?_
    have hk2 : Kp (fun k => k = b) W0 w2 := hW1.t (Kp.of (X := fun k => k = b) (bd1.trans (b2.mono bd1.size)))
    have hb2 : w2.heap[b]? = some (dko (some m) ((tot nl L : Int) + ((x.now.length : Int) - (y.now.length : Int))) e c bd r) := by
      rw [b2.block b (by have := bd1.size; have := (Array.getElem?_eq_some_iff.1 hB1).1; simpa using this)]; exact hB1
    have hmb := ne_map HB0.out HO0.out
    have hown2 := own_kp HO0.out hk2 hmb
    obtain ⟨w3, hrun, hown3, hturn⟩ := hown2.store law9 Tryz.underlying29 (by unfold maxLen; omega) (key9 k hk) (val := pv x) (d := .held (pv x)) (ps := []) rfl
    rw [toD_put] at hown3
    have lc3 : Ps b m w.heap.size x w3 := by
      have hg := hturn.grown
      have hb3 := (hg.block b (Array.getElem?_eq_some_iff.1 hb2).1 (fun e1 => hmb (by cases e1; rfl))).trans hb2
      have hlw := block_lt_of_cell lc2.e0
      have hc : ∀ i, w3.cell? ⟨w.heap.size, i, none⟩ = w2.cell? ⟨w.heap.size, i, none⟩ := fun i => World.cell?_of_block (hg.block w.heap.size hlw (fun e1 => hmw (by cases e1; rfl)))
      exact ⟨(dc_of hb3).c0, by rw [hc]; exact lc2.e0, by rw [hc]; exact lc2.e1, by rw [hc]; exact lc2.e2⟩
    have hk3 : Kp (DX b (some m)) W0 w3 := (hk2.mono (Y := DX b (some m)) fun _ h => .inl h).t (Kp.grown hturn.grown (fun k hk => by cases hk; exact .inr rfl))
    have HQ : Hid (PD w3 b (some m) (putL k x L) e c bd r) := by
      refine ⟨?_, (fun h => by cases h), fun m' hm' => ?_, HS.out.put k x⟩
      · have hb3 := (hturn.grown.block b (Array.getElem?_eq_some_iff.1 hb2).1 (fun e1 => hmb (by cases e1; rfl))).trans hb2
        have ht := tot_put nl k x HS.out
        rw [hb3, show ((tot nl L : Int) + ((x.now.length : Int) - (y.now.length : Int))) = (tot nl (putL k x L) : Int) from ?_]
        rw [HY.out, ent_len]
        unfold nl at ht ⊢
        omega
      · cases hm'
        exact own_tight hown3
    have HZ := Lib.hid (HK0.out.trans hk3 (fun i hi hx => by
      rcases hx with hx | hx
      · exact .inl hx
      · rcases hm0.is with e1 | e1
        · exact .inr (e1.trans hx)
        · cases hx; omega))
    clear hb2 hmb hown2 hown3 hturn HO0 HY hk2 hk3 hB1 hX1 hW1 lc lc1 lc2 cC b2 bd1 HB0 HX0 HK0 HS
    unfold Oper.wp
    simp [go_sem, hrun]
    refine ⟨lc3, wpAnyH_done (by kernel_rfl) ?_ _⟩
    go_wp2
    exact bodyPost_end (results_none rfl _ _ _) rfl ⟨rfl, ⟨m, HQ.out, hm0⟩, HZ.out⟩
end Go.Proofs.YtlldfmnoidndmaaGreatDoor.Dsk
namespace Go.Proofs.YtlldfmnoidndmaaGreatDoor.Dsk
open Go.RowKit Go.Sort Go.Maps

theorem fld_at (x : Ent) (W : World) : Sem.run Tryz.prog (Instr.field 120 (pv x) 0) W = .ok (.string ⟨x.now.toArray⟩) W := fld73 _ _ _ W
/-- The lookup at a disk's map, whichever. -/
theorem look_any {w : World} {b : Nat} {mb : Option Nat} {L : Kv Ent} {e : Bool} {c : Int} {bd : Bool} {r : Int} (h : PD w b mb L e c bd r) (k : List UInt8) (hk : k.length ≤ 1000000) (W : World) (hW : ∀ m, mb = some m → W.heap[m]? = w.heap[m]?) :
    (Instr.lookup 29 (.map mb) (.string ⟨k.toArray⟩) false).run Tryz.prog W = .ok (pv (ent k L)) W ∧ (Instr.lookup 29 (.map mb) (.string ⟨k.toArray⟩) true).run Tryz.prog W = .ok (.tuple #[pv (ent k L), .bool (lkL k L).isSome]) W := by
  cases mb with
  | none =>
    have := h.nil rfl
    subst this
    exact ⟨look_nil' W k hk false, look_nil' W k hk true⟩
  | some m =>
    obtain ⟨es, cl, h1, h2⟩ := h.map m rfl
    exact look_own (w := W) (m := m) (n := L.length) (L := L) ⟨es, cl, (hW m rfl).trans h1, h2⟩ k hk

set_option maxHeartbeats 1600000 in
set_option maxRecDepth 100000 in
theorem drop_any (b : Nat) (mb : Option Nat) (L : Kv Ent) (e : Bool) (c : Int) (bd : Bool) (r : Int) (k : List UInt8) (w : World) (h : PD w b mb L e c bd r) (hk : k.length ≤ 1000000) (hT : tot nl L ≤ 1000000000) :
    Calls Tryz.prog 104 #[.pointer (some ⟨b, 0, none⟩), .string ⟨k.toArray⟩] w fun z w' => z = .returned (.tuple #[]) ∧ PD w' b mb (delL k L) e c bd r ∧ Kp (DX b mb) w w' := by
  have hd := dc_of h.blk
  obtain ⟨hlt, c0, c1, c2, c3, c4, c5, f0, f1, f2, f3, f4, f5⟩ := hd
  have hy := (look_any h k hk w.drew (fun _ _ => rfl)).1
  obtain ⟨y, hye⟩ : ∃ y, y = ent k L := ⟨_, rfl⟩
  rw [← hye] at hy
  have hyt : (y.now.length : Int) ≤ (tot nl L : Int) := by
    rw [hye, ent_len]
    have := olen_le nl k h.srt
    omega
  have H := Lib.hid h
  have HY := Lib.hid hye
  have hF := fun W => fld73 ⟨y.now.toArray⟩ ⟨(y.sf.getD []).toArray⟩ y.sf.isSome W
  unfold pv at hy
  clear h hye
  go_enter Tryz.func104, Tryz.ntmps104
  go_wp2_with fail
  go_region
  have hW1 : Kp (fun k => k = b) w (w.setCell ⟨b, 1, none⟩ (.int .i64 ((tot nl L : Int) - (y.now.length : Int)))).drew := ⟨rfl, rfl, rfl, kp1.size, kp1.block⟩
  have hB1 : (w.setCell ⟨b, 1, none⟩ (.int .i64 ((tot nl L : Int) - (y.now.length : Int)))).drew.heap[b]? = some (dko mb ((tot nl L : Int) - (y.now.length : Int)) e c bd r) := heap_set (i := 1) (u := .int .i64 ((tot nl L : Int) - (y.now.length : Int))) H.out.blk
  generalize (w.setCell ⟨b, 1, none⟩ (.int .i64 ((tot nl L : Int) - (y.now.length : Int)))).drew = W1 at hW1 hB1 ⊢
  clear c0 c1 c2 c3 c4 c5 f0 f1 f2 f3 f4 f5 hy hF
  have c0 := (dc_of hB1).c0
  have ht := tot_del nl k H.out.srt
  have e1 : ((tot nl L : Int) - (y.now.length : Int)) = (tot nl (delL k L) : Int) := by
    rw [HY.out, ent_len]; omega
  have HB := Lib.hid (e1 ▸ hB1)
  clear hB1 ht e1
  cases mb with
  | none =>
    have hrun := fun ty => Maps.drop_nil (w := W1) law9 Tryz.underlying29 (key9 k hk) ty
    have hL := H.out.nil rfl
    subst hL
    go_wp2
    refine bodyPost_end (results_none rfl _ _ _) rfl ⟨rfl, ⟨HB.out, fun _ => rfl, fun _ h => (by cases h), Srt.nil⟩, hW1.mono fun _ h => .inl h⟩
  | some m =>
    have hmb := ne_map H.out.blk (H.out.map m rfl)
    have hown := own_kp (H.out.map m rfl) hW1 hmb
    go_wp2_with (at_delete; refine wpList_delete_own _ rfl _ _ 29 9 rfl 120 law9 Tryz.underlying29 Rv m L.length _ rfl hown _ _ rfl (key9 k hk) ?_; intro w3 hown3 hturn3)
    rw [toD_del] at hown3
    refine bodyPost_end (results_none rfl _ _ _) rfl ⟨rfl, ⟨?_, (fun h => by cases h), fun m' hm' => ?_, H.out.srt.del k⟩, ?_⟩
    · exact (hturn3.grown.block b (Array.getElem?_eq_some_iff.1 HB.out).1 (fun e1 => hmb (by cases e1; rfl))).trans HB.out
    · cases hm'; exact own_tight hown3
    · exact (hW1.mono (Y := DX b (some m)) fun _ h => .inl h).t (Kp.grown hturn3.grown (fun k hk => by cases hk; exact .inr rfl))
end Go.Proofs.YtlldfmnoidndmaaGreatDoor.Dsk
namespace Go.Proofs.YtlldfmnoidndmaaGreatDoor.Dsk
open Go.RowKit Go.Sort Go.Maps

theorem len_any {w : World} {b : Nat} {mb : Option Nat} {L : Kv Ent} {e : Bool} {c : Int} {bd : Bool} {r : Int} (h : PD w b mb L e c bd r) (W : World) (hW : ∀ m, mb = some m → W.heap[m]? = w.heap[m]?) (ty : TypeId) :
    (Builtin.len_ #[29] ty #[.map mb]).run Tryz.prog W = .ok (.int .i64 L.length) W := by
  cases mb with
  | none =>
    have := h.nil rfl
    subst this
    exact Maps.len_nil Tryz.underlying29 ty
  | some m =>
    obtain ⟨es, cl, h1, h2⟩ := h.map m rfl
    have := World.ownsMap.len (w := W) (b := m) (n := L.length) (D := toD pv L) (R := Rv) ⟨es, cl, (hW m rfl).trans h1, h2⟩ Tryz.underlying29 ty
    rw [this, toD_size]
theorem pd_alloc_at {w : World} {b : Nat} {mb : Option Nat} {L : Kv Ent} {e : Bool} {c : Int} {bd : Bool} {r : Int} (h : PD w b mb L e c bd r) (o : Obj) : ∀ m, mb = some m → (w.alloc o).heap[m]? = w.heap[m]? := fun m hm => Below.heap_alloc w o m (h.map m hm).lt
/-- Is there room? -/
def fit (L : Kv Ent) (k s : List UInt8) (bd : Bool) (r : Int) : Bool := !bd || decide ((tot nl (delL k L) + s.length : Int) ≤ r)

set_option maxHeartbeats 1600000 in
set_option maxRecDepth 100000 in
theorem fits_any (b : Nat) (mb : Option Nat) (L : Kv Ent) (e : Bool) (c : Int) (bd : Bool) (r : Int) (k s : List UInt8) (w : World) (h : PD w b mb L e c bd r) (hk : k.length ≤ 1000000) (hs : s.length ≤ 1000000) (hT : tot nl L ≤ 1000000000) (hn : L.length < 5000) :
    Calls Tryz.prog 147 #[.pointer (some ⟨b, 0, none⟩), .string ⟨k.toArray⟩, .string ⟨s.toArray⟩] w fun z w' => z = .returned (.bool (fit L k s bd r)) ∧ Below w.heap.size w w' := by
  have hd := dc_of h.blk
  obtain ⟨hlt, c0, c1, c2, c3, c4, c5, f0, f1, f2, f3, f4, f5⟩ := hd
  have hy := (look_any h k hk w (fun _ _ => rfl)).2
  obtain ⟨y, hye⟩ : ∃ y, y = ent k L := ⟨_, rfl⟩
  rw [← hye] at hy
  have hl := len_any h (w.alloc (eno y)) (pd_alloc_at h _)
  have hyt : (y.now.length : Int) ≤ (tot nl L : Int) := by
    rw [hye, ent_len]
    have := olen_le nl k h.srt
    omega
  have HT : Hid (((tot nl L : Int) - (y.now.length : Int)) = (tot nl (delL k L) : Int)) := by
    show _ = _
    have := tot_del nl k h.srt
    rw [hye, ent_len]; omega
  have H := Lib.hid h
  clear h hye
  unfold pv at hy
  have bA := (Below.refl w.heap.size w).alloc (Nat.le_refl _) (eno y)
  cases hz : (lkL k L).isSome
  all_goals
    rw [hz] at hy
    cases bd
    all_goals
      go_enter Tryz.func147, Tryz.ntmps147
      go_wp2
      go_quiet (fail)
      go_wp2
      go_ret
      refine ⟨ret_bool ?_, ⟨bA.os, bA.tape, bA.output, bA.size, bA.block⟩⟩
      first | rfl | (unfold fit; rw [← HT.out]; simp)
end Go.Proofs.YtlldfmnoidndmaaGreatDoor.Dsk
