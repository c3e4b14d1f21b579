/- One by one. -/
import Derived.Test.YthijccmiemlilaaGreatDoorB1
import Derived.Test.YthijccmiemlilaaGreatDoorXs
import Derived.Laws.EntriesVeiled
namespace Go.Proofs.YthijccmiemlilaaGreatDoor.Ord
open Go.RowKit Go.Sort

/-- Numbers that may be written over. -/
structure Hl (W : World) (g : Nat) (L : List Nat) : Prop where
  lt : g < W.heap.size
  c : ∀ i (hi : i < L.length), W.cell? ⟨g, i, none⟩ = some (eI L[i])
  f : ∀ j, W.frozen? ⟨g, j, none⟩ = false
theorem Hl.kp {W W' : World} {g : Nat} {L : List Nat} {S : Nat → Prop} (h : Hl W g L) (k : Kp S W W') (hs : ¬ S g) : Hl W' g L :=
  ⟨Nat.lt_of_lt_of_le h.lt k.size, fun i hi => (World.cell?_of_block (w := W) (k.block g h.lt hs)).trans (h.c i hi), fun j => (World.frozen?_of_block (w := W) (k.block g h.lt hs)).trans (h.f j)⟩
theorem Hl.on {W W' : World} {g : Nat} {L : List Nat} (h : Hl W g L) {B : Nat} (k : Below B W W') (hB : g < B) : Hl W' g L :=
  ⟨Nat.lt_of_lt_of_le h.lt k.size, fun i hi => (k.cell (p := ⟨g, i, none⟩) hB).trans (h.c i hi), fun j => (k.frozen (p := ⟨g, j, none⟩) hB).trans (h.f j)⟩
theorem Hl.is {W : World} {g : Nat} {L : List Nat} (h : Hl W g L) {c : Nat} (hc : L.length ≤ c) : Is W (.slice (some ⟨g, 0, none⟩) L.length c) L :=
  ⟨.inr ⟨g, 0, c, rfl, hc, h.lt, fun i hi => by rw [Nat.zero_add]; exact h.c i hi⟩⟩
theorem iw_hl {W : World} {B g n c : Nat} {l : List Nat} (h : Iw W B (.slice (some ⟨g, 0, none⟩) n c) l) : n = l.length ∧ Hl W g l ∧ l.length ≤ c ∧ c ≤ 9223372036854775807 ∧ B ≤ g := by
  rcases h.2 with ⟨h', _⟩ | ⟨g', cap, cur, h', hb, hg, hnc, hcm, hcs, htake⟩
  · simp at h'
  · simp only [Value.slice.injEq, Option.some.injEq, Addr.mk.injEq, and_true] at h'
    obtain ⟨rfl, rfl, rfl⟩ := h'
    refine ⟨rfl, ⟨(Array.getElem?_eq_some_iff.1 hg).1, fun i hi => ?_, fun j => World.ownsRow.frozenAt h j⟩, hnc, by unfold maxLen at hcm; omega, hb⟩
    rw [World.ownsRow.cellAt h i (by omega)]
    simp [hi]
theorem eI_get (L : List Nat) (j : Nat) (hj : j < L.length) : (Value.int .i64 ((L.map Int.ofNat).toArray[j]!)) = eI L[j] := by
  rw [getElem!_pos _ j (by simpa using hj)]
  simp
theorem erase_eq (L : List Nat) (i : Nat) (_hi : i < L.length) : (L.map Int.ofNat).take i ++ (L.map Int.ofNat).drop (i + 1) ++ List.replicate (i + 1 - i) 0 = (L.eraseIdx i).map Int.ofNat ++ [0] := by
  rw [List.eraseIdx_eq_take_drop_succ, List.map_append, List.map_take, List.map_drop]
  simp
theorem del_any (g cap i : Nat) (L : List Nat) (w : World) (h : Hl w g L) (hc : L.length ≤ cap) (hm : cap ≤ 9223372036854775807) (hi : i < L.length) :
    Calls Tryz.prog 118 #[.slice (some ⟨g, 0, none⟩) L.length cap, eI i, .int .i64 ((i : Int) + 1)] w fun e w' => e = .returned (.slice (some ⟨g, 0, none⟩) (L.eraseIdx i).length cap) ∧ Hl w' g (L.eraseIdx i) ∧ Kp (· = g) w w' := by
  have hH : Holds (Value.int .i64) w g 0 (L.map Int.ofNat).toArray := fun j hj => by
    have hj' : j < L.length := by simpa using hj
    rw [Nat.zero_add, eI_get L j hj']
    exact ⟨h.c j hj', h.f j⟩
  have hl : (L.map Int.ofNat).length = L.length := by simp
  have cD := Tryz.slices_Delete_int g 0 cap i (i + 1) (L.map Int.ofNat) w hH (by rw [hl]; exact hc) hm (by omega) (by rw [hl]; omega)
  rw [hl, erase_eq L i hi, show ((i + 1 : Nat) : Int) = (i : Int) + 1 by omega] at cD
  refine cD.mono ?_
  have hel : (L.eraseIdx i).length = L.length - 1 := List.length_eraseIdx_of_lt hi
  rintro e w' ⟨rfl, q, rfl⟩
  have hs : ((L.eraseIdx i).map Int.ofNat ++ [0]).toArray.size = (L.map Int.ofNat).toArray.size := by simp [hel]; omega
  have hH' := holds_putRow (Value.int .i64) (Sort.ahead w q) g 0 (L.map Int.ofNat).toArray ((L.eraseIdx i).map Int.ofNat ++ [0]).toArray hH hs
  refine ⟨by rw [hel, show L.length - (i + 1 - i) = L.length - 1 by omega], ⟨by simpa using h.lt, fun j hj => ?_, fun j => by rw [frozen?_putRow]; exact h.f j⟩, ⟨rfl, rfl, rfl, by simp, fun k hk hs => ?_⟩⟩
  · have := (hH' j (by simp; omega)).1
    rw [Nat.zero_add] at this
    rw [this, getElem!_pos _ j (by simp; omega)]
    congr 1
    simp [hj]
  · show ((Sort.ahead w q).heap.modify g _)[k]? = _
    rw [Array.getElem?_modify, if_neg (fun e => hs e.symm)]
    rfl

def slLen : Value → Nat | .slice _ k _ => k | _ => 0
/-- Which one comes next. -/
def nx (A : Om.T) (L : List Nat) : Nat := (max 0 (fx (L.findIdx? fun b => !wts A L b))).toNat
def obo (A : Om.T) : Nat → List Nat → List Nat
  | 0, _ => []
  | k + 1, L => L.getD (nx A L) 0 :: obo A k (L.eraseIdx (nx A L))
def ob (A : Om.T) (L : List Nat) : List Nat := obo A L.length L
theorem nx_lt (A : Om.T) (L : List Nat) (h : 0 < L.length) : nx A L < L.length ∧ ((nx A L : Nat) : Int) = max 0 (fx (L.findIdx? fun b => !wts A L b)) := by
  unfold nx
  cases e : L.findIdx? fun b => !wts A L b with
  | none => simp [fx]; exact h
  | some k =>
    obtain ⟨hk, _⟩ := List.findIdx?_eq_some_iff_getElem.1 e
    simp [fx]; omega
theorem ob_step (A : Om.T) (L : List Nat) (h : 0 < L.length) : ob A L = L[nx A L]'(nx_lt A L h).1 :: ob A (L.eraseIdx (nx A L)) := by
  have hi := (nx_lt A L h).1
  have key : ∀ k, obo A (k + 1) L = L[nx A L]'hi :: obo A k (L.eraseIdx (nx A L)) := fun k => by
    show L.getD (nx A L) 0 :: _ = _
    simp [List.getD, hi]
  have := key (L.length - 1)
  rw [Nat.sub_add_cancel h] at this
  unfold ob
  rw [List.length_eraseIdx_of_lt hi]
  exact this
theorem ob_next (A : Om.T) (L : List Nat) (h : 0 < L.length) : ∃ (i x : Nat), ∃ (hi : i < L.length), L[i] = x ∧ ob A L = x :: ob A (L.eraseIdx i) ∧ ((fx (L.findIdx? fun b => !wts A L b) < 0 ∧ i = 0) ∨ fx (L.findIdx? fun b => !wts A L b) = i) :=
  ⟨nx A L, _, (nx_lt A L h).1, rfl, ob_step A L h, by have := (nx_lt A L h).2; omega⟩
theorem ob_nil (A : Om.T) : ob A [] = [] := rfl
/-- Where oneByOne stands: cb, lb, wb its captured variables, lg what is left, behind B what is in line. -/
structure Lo (w : World) (cb lb wb lg cap B g : Nat) (W : World) (L D : List Nat) (v : Value) : Prop where
  bel : Below w.heap.size w W
  xc : Bx W cb (pt g)
  xw : Bx W wb (wtv lb cb)
  xl : Bx W lb (.slice (some ⟨lg, 0, none⟩) L.length cap)
  fl : W.frozen? ⟨lb, 0, none⟩ = false
  hl : Hl W lg L
  le : L.length ≤ cap
  own : Iw W B v D
  sz : B ≤ W.heap.size
theorem Lo.on {w : World} {cb lb wb lg cap B g : Nat} {W W' : World} {L D : List Nat} {v : Value} (h : Lo w cb lb wb lg cap B g W L D v) (k : Below W.heap.size W W') : Lo w cb lb wb lg cap B g W' L D v :=
  ⟨bon h.bel k, h.xc.on k, h.xw.on k, h.xl.on k, (k.frozen h.xl.lt).trans h.fl, h.hl.on k h.hl.lt, h.le, own_on h.own k, Nat.le_trans h.sz k.size⟩
/-- One more stands in line. -/
theorem Lo.put {w : World} {cb lb wb lg cap B g : Nat} {W W' : World} {L D D' : List Nat} {v v' : Value} (h : Lo w cb lb wb lg cap B g W L D v) (k : Below B W W') (hc : cb < B) (hb : lb < B) (hw : wb < B) (hg : lg < B) (hB : w.heap.size ≤ B) (ho : Iw W' B v' D') : Lo w cb lb wb lg cap B g W' L D' v' :=
  ⟨h.bel.trans (k.mono hB), ⟨Nat.lt_of_lt_of_le h.xc.lt k.size, (k.cell (p := ⟨cb, 0, none⟩) hc).trans h.xc.c⟩, ⟨Nat.lt_of_lt_of_le h.xw.lt k.size, (k.cell (p := ⟨wb, 0, none⟩) hw).trans h.xw.c⟩, ⟨Nat.lt_of_lt_of_le h.xl.lt k.size, (k.cell (p := ⟨lb, 0, none⟩) hb).trans h.xl.c⟩, (k.frozen (p := ⟨lb, 0, none⟩) hb).trans h.fl, h.hl.on k hg, h.le, ho, Nat.le_trans h.sz k.size⟩
theorem own_kp {W W' : World} {B : Nat} {e : TypeId} {s n : Nat} {v : Value} {xs : List Value} {S : Nat → Prop} (h : W.ownsRow B e s v n xs) (k : Kp S W W') (hS : ∀ j, S j → j < B) : W'.ownsRow B e s v n xs := by
  refine ⟨h.1, ?_⟩
  rcases h.2 with hn | ⟨g, cap, cur, rfl, hb, hgg, rest⟩
  · exact .inl hn
  · exact .inr ⟨g, cap, cur, rfl, hb, (k.block g (Array.getElem?_eq_some_iff.1 hgg).1 (fun e => by have := hS g e; omega)).trans hgg, rest⟩
/-- One is left no more. -/
theorem Lo.del {w : World} {cb lb wb lg cap B g : Nat} {W W' : World} {L L' D : List Nat} {v : Value} (h : Lo w cb lb wb lg cap B g W L D v) (k : Kp (· = lg) W W') (hl : Hl W' lg L') (hle : L'.length ≤ L.length) (hc : cb < lg) (hb : lg < lb) (hw : lg < wb) (hwl : lb < wb) (hwB : wb < B) (hB : w.heap.size ≤ lg) : Lo w cb lb wb lg cap B g (W'.setCell ⟨lb, 0, none⟩ (.slice (some ⟨lg, 0, none⟩) L'.length cap)) L' D v := by
  have x1 := h.xc.kp k (by omega)
  have x2 := h.xw.kp k (by omega)
  have x3 := h.xl.kp k (by omega)
  have f3 : W'.frozen? ⟨lb, 0, none⟩ = false := (World.frozen?_of_block (w := W) (k.block lb h.xl.lt (by omega))).trans h.fl
  have k2 : Kp (· = lb) W' (W'.setCell ⟨lb, 0, none⟩ (.slice (some ⟨lg, 0, none⟩) L'.length cap)) := (Kp.refl (· = lb) W').set (p := ⟨lb, 0, none⟩) rfl _
  refine ⟨(h.bel.trans (k.below h.bel.size (fun j e => by omega))).setCell (by show w.heap.size ≤ lb; omega) _, x1.kp k2 (by omega), x2.kp k2 (by omega), ⟨by simpa [World.setCell] using x3.lt, by simp [go_sem, x3.c]⟩, by simpa using f3, hl.kp k2 (by omega), Nat.le_trans hle h.le, own_kp (own_kp h.own k (fun j e => by omega)) k2 (fun j e => by omega), by simpa [World.setCell] using Nat.le_trans h.sz k.size⟩
set_option maxHeartbeats 3200000 in
set_option maxRecDepth 100000 in
theorem obo_row (b o c g n : Nat) (A : Om.T) (l : List Nat) (hl : ∀ a ∈ l, a < n) (hn : l.length ≤ 40) (w : World) (h : Tb w g n A) (hv : Ir w b o l) :
    Calls Tryz.prog 79 #[.slice (some ⟨b, o, none⟩) l.length c, pt g] w fun e w' => ∃ v, e = .returned v ∧ Iw w' w.heap.size v (ob A l) ∧ Below w.heap.size w w' := by
  have b0 := bA1 w (.cells #[pt g] 137)
  have X0 := Lib.hid (bx_new w (pt g) 137)
  have cC := Tryz.slices_Clone_int b o l.length c (l.map Int.ofNat) (w.alloc (.cells #[pt g] 137)) (by simp) (by omega) (fun j hj => by
    have hj' : j < l.length := by simpa using hj
    rw [((hv.on b0).c j hj')]
    simp [List.getD, hj'])
  have HB0 := Lib.hid b0
  have HT := Lib.hid h
  clear hv b0 h
  go_enter Tryz.func79, Tryz.ntmps79
  go_wp2_with fail
  refine cC.mono ?_
  rintro e w1 ⟨v', rfl, hO, hnn, b1⟩
  have hO1 : Iw w1 (w.heap.size + 1) v' l := by
    have : (List.take l.length (l.map Int.ofNat)).map (Value.int .i64) = l.map eI := by
      rw [List.take_of_length_le (by simp), List.map_map]; rfl
    rw [this, World.size_alloc] at hO; exact hO
  obtain ⟨lg, cap, rfl⟩ : ∃ lg cap, v' = .slice (some ⟨lg, 0, none⟩) l.length cap := by
    rcases hO1.2 with ⟨h', _⟩ | ⟨g', cap, cur, h', _⟩
    · exact absurd h' hnn
    · exact ⟨g', cap, h'⟩
  clear hO cC hnn
  obtain ⟨_, hl1, hcap, hcm, hge⟩ := iw_hl hO1
  have X1 := X0.out.on b1
  have k1 := bon HB0.out b1
  have hsz1 : w.heap.size + 1 ≤ w1.heap.size := by have := b1.size; rw [World.size_alloc] at this; exact this
  have b2 := bA1 w1 (.cells #[.slice (some ⟨lg, 0, none⟩) l.length cap] 31)
  have x2 := bx_new w1 (.slice (some ⟨lg, 0, none⟩) l.length cap) 31
  have f2 : (w1.alloc (.cells #[.slice (some ⟨lg, 0, none⟩) l.length cap] 31)).frozen? ⟨w1.heap.size, 0, none⟩ = false := by simp
  obtain ⟨W2, hW2⟩ : ∃ W2, W2 = w1.alloc (.cells #[.slice (some ⟨lg, 0, none⟩) l.length cap] 31) := ⟨_, rfl⟩
  have e2 : W2.heap.size = w1.heap.size + 1 := by rw [hW2]; simp
  have b3 := bA1 W2 (.cells #[wtv w1.heap.size w.heap.size] 62)
  have x3 := bx_new W2 (wtv w1.heap.size w.heap.size) 62
  rw [← hW2] at b2 x2 f2
  have b23 := bon b2 b3
  have LO : ∀ X, Below (W2.alloc (.cells #[wtv w1.heap.size w.heap.size] 62)).heap.size (W2.alloc (.cells #[wtv w1.heap.size w.heap.size] 62)) X → ∀ v, Iw X (W2.alloc (.cells #[wtv w1.heap.size w.heap.size] 62)).heap.size v [] → Lo w w.heap.size w1.heap.size (w1.heap.size + 1) lg cap (w1.heap.size + 2) g X l [] v := fun X hX v hv => by
    have e3 : (W2.alloc (.cells #[wtv w1.heap.size w.heap.size] 62)).heap.size = w1.heap.size + 2 := by rw [World.size_alloc, e2]
    refine ⟨bon (bon k1 b23) hX, (X1.on b23).on hX, ?_, (x2.on b3).on hX, (hX.frozen (p := ⟨w1.heap.size, 0, none⟩) (by rw [e3]; show w1.heap.size < _; omega)).trans ((b3.frozen (p := ⟨w1.heap.size, 0, none⟩) (by rw [e2]; show w1.heap.size < _; omega)).trans f2), (hl1.on b23 hl1.lt).on hX (by rw [e3]; have := hl1.lt; omega), hcap, ?_, ?_⟩
    · have := x3.on hX; rw [e2] at this; exact this
    · rw [e3] at hv; exact hv
    · have := hX.size; rw [e3] at this; exact this
  have HLO := Lib.hid LO
  have hll := hl1.lt
  clear LO b2 b3 x2 x3 f2 b23 X1 k1 hO1 hl1 X0 HB0 b1
  obtain ⟨i0, hi0, hz0, hz1, hz2⟩ := infoQ info3
  rw [hW2] at HLO
  have HW2 := Lib.hid hW2
  have He2 := Lib.hid e2
  clear hW2 e2
  go_wp2_with (first | (at_make; refine wpList_make_own _ rfl _ _ 31 rfl ((w1.alloc (.cells #[.slice (some ⟨lg, 0, none⟩) l.length cap] 31)).alloc (.cells #[wtv w1.heap.size w.heap.size] 62)).heap.size 3 i0 _ 1 Tryz.underlying31 hi0 hz0 hz1 _ _ _ l.length rfl rfl rfl (by rw [hz2]; omega) (by unfold maxLen; omega) (Nat.le_refl _) ?_; intro w4 hown4 hgr4) | fail)
  have hX4 : Below ((w1.alloc (.cells #[.slice (some ⟨lg, 0, none⟩) l.length cap] 31)).alloc (.cells #[wtv w1.heap.size w.heap.size] 62)).heap.size ((w1.alloc (.cells #[.slice (some ⟨lg, 0, none⟩) l.length cap] 31)).alloc (.cells #[wtv w1.heap.size w.heap.size] 62)) w4 := (Below.refl _ _).grown hgr4 (Nat.le_refl _) (fun k e => by cases e)
  have HLo : Hid (Lo w w.heap.size w1.heap.size (w1.heap.size + 1) lg cap (w1.heap.size + 2) g w4 l [] (.slice (some ⟨w1.heap.size + 1 + 1, 0, none⟩) 0 l.length)) := by
    have := HLO.out w4 hX4 _ hown4
    simp only [World.size_alloc] at this
    exact this
  clear hX4 hown4 hgr4 HLO HW2 He2
  go_loopw [7] (fun v W => ∃ L D, Hid (Lo w w.heap.size w1.heap.size (w1.heap.size + 1) lg cap (w1.heap.size + 2) g W L D v) ∧ Hid (ob A l = D ++ ob A L) ∧ Hid (∀ a ∈ L, a < n) ∧ L.length ≤ 40 ∧ D.length + L.length = l.length) (fun v _ => l.length - slLen v)
  case atStart => exact ⟨l, [], HLo, by show _ = _; rfl, hl, hn, by simp⟩
  case round =>
    obtain ⟨L, D, HL, HO, HA, hL40, hDL⟩ := hrel
    have c0 := HL.out.xl.c
    obtain ⟨U1, U2, rfl⟩ := iw_sl HL.out.own
    by_cases h0 : 0 < L.length
    · have hTw := HT.out.on HL.out.bel
      have cI := idx_any31 (pt (w1.heap.size + 1)) (.slice (some ⟨lg, 0, none⟩) L.length cap) L (fun b => !wts A L b) wr (HL.out.hl.is HL.out.le) (by omega) (fun i hi W hW => c31_any L[i] w1.heap.size w.heap.size (w1.heap.size + 1) g n A L _ HA.out (HA.out _ (List.getElem_mem hi)) hL40 W (hTw.on hW) (HL.out.xc.on hW) (HL.out.xl.on hW) ((HL.out.hl.is HL.out.le).on hW) (HL.out.xw.on hW))
      obtain ⟨i, x, hx1, hx, hob, hmax'⟩ := ob_next A L h0
      have HOB := Lib.hid hob
      have h0' : (0 : Int) < (L.length : Int) := by omega
      have hmax := Lib.hid hmax'
      generalize fx (L.findIdx? fun b => !wts A L b) = z at cI hmax
      clear hTw hob hmax'
      go_wp2_with fail
      refine cI.mono ?_
      rintro e w5 ⟨rfl, b5⟩
      have HL5 := Lib.hid (HL.out.on b5)
      clear cI HL b5 c0
      have q0 := HL5.out.xl.c
      have q1 := HL5.out.hl.c i hx1
      rw [hx] at q1
      have hown := HL5.out.own
      have hBs := HL5.out.sz
      have hmx : max (0 : Int) z = (i : Int) := by have := hmax.out; omega
      clear hmax
      go_wp2_with (first | (at_builtin; refine wpList_ap x hown (by omega) hBs rfl _ _ rfl rfl _ rfl rfl ?_; intro g6 c6 w6 hI6 hB6 _; have HL6 := Lib.hid (HL5.out.put (hB6 _ (Nat.le_refl _)) (by omega) (by omega) (by omega) (by omega) (by omega) hI6); have q2 := HL6.out.xl.c; have q3 := HL6.out.fl; have cD := del_any lg cap i L w6 HL6.out.hl HL6.out.le hcm hx1; clear HL5 q0 q1 hown hBs hI6 hB6) | fail)
      refine cD.mono ?_
      rintro e w7 ⟨rfl, hl7, k7⟩
      have hel : (L.eraseIdx i).length = L.length - 1 := List.length_eraseIdx_of_lt hx1
      have HL7 := Lib.hid (HL6.out.del (W' := w7) k7 hl7 (by omega) (by omega) (by omega) (by omega) (by omega) (by omega) (by omega))
      have Hel := Lib.hid hel
      have q4 := HL6.out.xl.kp k7 (show ¬ w1.heap.size = lg by omega)
      have q5 := q4.c
      have q6 : w7.frozen? ⟨w1.heap.size, 0, none⟩ = false := (World.frozen?_of_block (w := w6) (k7.block w1.heap.size HL6.out.xl.lt (show ¬ w1.heap.size = lg by omega))).trans q3
      have HM : Hid (∀ a ∈ L.eraseIdx i, a < n) := fun a ha => HA.out a (List.mem_of_mem_eraseIdx ha)
      have HO7 : Hid (ob A l = (D ++ [x]) ++ ob A (L.eraseIdx i)) := by show _ = _; rw [HO.out, HOB.out]; simp
      clear cD hl7 k7 HL6 q4 q2 q3 hel
      go_wp2_with fail
      exact ⟨⟨L.eraseIdx i, D ++ [x], HL7, HO7, HM, by have := Hel.out; omega, by have := Hel.out; simp; omega⟩, by simp only [slLen]; omega⟩
    · have e0 : L = [] := List.length_eq_zero_iff.1 (by omega)
      subst e0
      have HE : Hid (ob A l = D) := by show _ = _; rw [HO.out, ob_nil]; simp
      clear HO HA
      go_wp2
      go_ret
      exact ⟨_, rfl, by rw [HE.out]; exact own_low HL.out.own (by omega), HL.out.bel⟩
set_option maxHeartbeats 3200000 in
set_option maxRecDepth 100000 in
theorem obo_nil (g : Nat) (w : World) :
    Calls Tryz.prog 79 #[.slice none 0 0, pt g] w fun e w' => ∃ v, e = .returned v ∧ Iw w' w.heap.size v [] ∧ Below w.heap.size w w' := by
  have cC := Tryz.slices_Clone_int_nil 0 0 (w.alloc (.cells #[pt g] 137))
  obtain ⟨i0, hi0, hz0, hz1, hz2⟩ := infoQ info3
  go_enter Tryz.func79, Tryz.ntmps79
  go_wp2_with fail
  refine cC.mono ?_
  rintro e w1 ⟨rfl, rfl⟩
  clear cC
  obtain ⟨X, hX⟩ : ∃ X, X = (((w.alloc (.cells #[pt g] 137)).alloc (.cells #[.slice none 0 0] 31)).alloc (.cells #[wtv (w.heap.size + 1) w.heap.size] 62)) := ⟨_, rfl⟩
  have bX : Below w.heap.size w X := by rw [hX]; exact bon (bon (bA1 w _) (bA1 _ _)) (bA1 _ _)
  have HX := Lib.hid hX
  have c1 : X.cell? ⟨w.heap.size + 1, 0, none⟩ = some (.slice none 0 0) := by
    have := ((bx_new (w.alloc (.cells #[pt g] 137)) (.slice none 0 0) 31).on (bA1 _ (.cells #[wtv (w.heap.size + 1) w.heap.size] 62))).c
    rw [World.size_alloc] at this
    rw [hX]; exact this
  clear hX
  go_wp2_with (first | (at_make; refine wpList_make_own _ rfl _ _ 31 rfl w.heap.size 3 i0 _ 1 Tryz.underlying31 hi0 hz0 hz1 _ _ _ 0 rfl rfl rfl (by rw [hz2]; omega) (by unfold maxLen; omega) (by simp; omega) ?_; intro w4 hown4 hgr4) | fail)
  have hg : X.grownBy w4 none := by rw [HX.out]; exact hgr4
  have hb : Below X.heap.size X w4 := (Below.refl _ _).grown hg (Nat.le_refl _) (fun k e => by cases e)
  have c4 := (hb.cell (block_lt_of_cell c1)).trans c1
  have k4 := bon bX hb
  have HO : Hid (Iw w4 w.heap.size (.slice (some ⟨w.heap.size + 1 + 1 + 1, 0, none⟩) 0 0) []) := by
    have := hown4
    simp only [World.size_alloc] at this
    exact this
  clear hg hb c1 hgr4 hown4 HX bX
  refine wp_loop_rounds 1 ?_
  rw [rounds_succ]
  go_wp2
  go_ret
  exact ⟨_, rfl, HO.out, k4⟩
theorem obo_any (g n : Nat) (A : Om.T) (l : List Nat) (v : Value) (hl : ∀ a ∈ l, a < n) (hn : l.length ≤ 40) (w : World) (h : Tb w g n A) (hv : Is w v l) (hnil : l = [] → v = .slice none 0 0) :
    Calls Tryz.prog 79 #[v, pt g] w fun e w' => ∃ v, e = .returned v ∧ Iw w' w.heap.size v (ob A l) ∧ Below w.heap.size w w' := by
  rcases hv.is with ⟨rfl, _⟩ | ⟨b, o, c, rfl, _, hI⟩
  · rw [hnil rfl]
    exact obo_nil g w
  · exact obo_row b o c g n A l hl hn w h hI
end Go.Proofs.YthijccmiemlilaaGreatDoor.Ord
