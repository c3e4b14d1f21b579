/- The walks of both Paths. -/
import Derived.Test.YtmlmdncepgcimaaGreatDoorZaq
import Derived.Lib.IndexMore
import Derived.Test.YtmlmdncepgcimaaGreatDoorYa
import Derived.Test.YtmlmdncepgcimaaGreatDoorUe
import Derived.Test.YtmlmdncepgcimaaGreatDoorZai
namespace Go.Proofs.YtmlmdncepgcimaaGreatDoor
open Go.RowKit Go.Shelf Go.Sort

/-- A sign of a path. -/
def pch (c : UInt8) : Bool := (decide (33 ≤ c.toNat) && decide (c.toNat ≤ 126)) && !decide (c.toNat = 44)
/-- A slash at the end, or ahead of another one. -/
def bad (s : List UInt8) (i : Nat) : Bool := decide (s[i]? = some 47) && (decide (i + 1 = s.length) || decide (s[i + 1]? = some 47))
def nsl (s : List UInt8) : Bool := (List.range s.length).all fun i => !bad s i
def lod (c : UInt8) : Bool := Vm.dg c || Vm.lr c
/-- A path. -/
def pth (s : List UInt8) : Bool := (decide (0 < s.length) && decide (s.length ≤ 60)) && (lod (s.headD 0) && (s.all pch && nsl s))

theorem nsl_iff (s : List UInt8) : nsl s = true ↔ ∀ i, i < s.length → bad s i = false := by
  unfold nsl
  rw [List.all_eq_true]
  constructor
  · intro h i hi
    simpa using h i (List.mem_range.2 hi)
  · intro h i hi
    simpa using h i (List.mem_range.1 hi)
theorem occ2 {s : List UInt8} {i : Nat} : Lib.occAt s [47, 47] i = true ↔ s[i]? = some 47 ∧ s[i + 1]? = some 47 := by
  unfold Lib.occAt
  rw [List.isPrefixOf_iff_prefix]
  constructor
  · rintro ⟨t, ht⟩
    have h0 : (s.drop i)[0]? = some 47 := by rw [← ht]; rfl
    have h1 : (s.drop i)[1]? = some 47 := by rw [← ht]; rfl
    rw [List.getElem?_drop] at h0 h1
    exact ⟨by simpa using h0, h1⟩
  · rintro ⟨h0, h1⟩
    refine ⟨(s.drop i).drop 2, ?_⟩
    apply List.ext_getElem?
    intro j
    match j with
    | 0 => simpa [List.getElem?_drop] using h0.symm
    | 1 => simpa [List.getElem?_drop] using h1.symm
    | j + 2 => simp [List.getElem?_drop]; congr 1; omega
theorem nsl_eq (s : List UInt8) : nsl s = (!(Lib.contains s [47, 47]) && !(Lib.hasSuffix s [47])) := by
  rw [Bool.eq_iff_iff, nsl_iff]
  simp only [Bool.and_eq_true, Bool.not_eq_true', Lib.contains, Lib.hasSuffix]
  constructor
  · intro h
    constructor
    · rcases Lib.index_spec s [47, 47] with ⟨h1, _⟩ | ⟨i, h1, h2, h3, _⟩
      · rw [h1]; rfl
      · obtain ⟨a, b⟩ := occ2.1 h3
        have hi : i < s.length := (List.getElem?_eq_some_iff.1 a).1
        have := h i hi
        unfold bad at this
        simp [a, b] at this
    · cases hs : List.isSuffixOf [47] s with
      | false => rfl
      | true =>
        rw [List.isSuffixOf_iff_suffix] at hs
        obtain ⟨t, rfl⟩ := hs
        have := h t.length (by simp)
        unfold bad at this
        simp at this
  · rintro ⟨h1, h2⟩ i hi
    cases hb : bad s i with
    | false => rfl
    | true =>
      unfold bad at hb
      simp only [Bool.and_eq_true, decide_eq_true_eq, Bool.or_eq_true] at hb
      obtain ⟨a, b | b⟩ := hb
      · have : List.isSuffixOf [47] s = true := by
          rw [List.isSuffixOf_iff_suffix]
          refine ⟨s.take i, ?_⟩
          have hd : s.drop i = [47] := by
            rw [List.drop_eq_getElem_cons hi, List.drop_of_length_le (by omega)]
            rw [(List.getElem?_eq_some_iff.1 a).2]
          rw [← hd, List.take_append_drop]
        rw [this] at h2
        cases h2
      · exfalso
        have ho := occ2.2 ⟨a, b⟩
        rcases Lib.index_spec s [47, 47] with ⟨_, h3⟩ | ⟨j, h3, _⟩
        · rw [h3 i (by omega)] at ho; cases ho
        · rw [h3] at h1; simp at h1

theorem lod_any (c : UInt8) (w : World) : Calls Tryz.prog 63 #[.int .u8 c.toNat] w fun e w' => e = .returned (.bool (lod c)) ∧ w' = w := by
  go_enter Tryz.func63, Tryz.ntmps63
  go_wp2
  all_goals go_ret
  all_goals exact ⟨ret_bool (by unfold lod Vm.lr Vm.dg; rw [Bool.eq_iff_iff]; simp; omega), rfl⟩

/-- internal/bytealg.MaxLen holds some number. -/
structure MaxN (w : World) : Prop where
  out : ∃ m, w.cell? ⟨2, 0, none⟩ = some (.int .i64 m)
theorem MaxN.on {w w' : World} (h : MaxN w) (k : Below w.heap.size w w') : MaxN w' := by
  obtain ⟨m, hm⟩ := h.out
  exact ⟨m, by rw [k.cell (block_lt_of_cell hm)]; exact hm⟩

set_option maxHeartbeats 1600000 in
set_option maxRecDepth 100000 in
theorem path_cons (c : UInt8) (t : List UInt8) (w : World) (hl : (c :: t).length ≤ 60) (hc : lod c = true) (hM : MaxN w) : Calls Tryz.prog 16 #[.string ⟨(c :: t).toArray⟩] w fun e w' => e = .returned (.bool (pth (c :: t))) ∧ w' = w := by
  obtain ⟨r, hr⟩ : ∃ r, r = pth (c :: t) := ⟨_, rfl⟩
  rw [← hr]
  have HN : Hid (∀ k (hk : k < (c :: t).length), pch (c :: t)[k] = false → r = false) := fun k hk h => by
    rw [hr]; unfold pth
    rw [show (c :: t).all pch = false from List.all_eq_false.2 ⟨_, List.getElem_mem hk, by rw [h]; simp⟩]; simp
  have HY : Hid ((∀ k (hk : k < (c :: t).length), pch (c :: t)[k] = true) → r = (!(Lib.contains (c :: t) [47, 47]) && !(Lib.hasSuffix (c :: t) [47]))) := fun h => by
    rw [hr]; unfold pth
    rw [show (c :: t).all pch = true from List.all_eq_true.2 (fun x hx => by obtain ⟨k, hk, rfl⟩ := List.getElem_of_mem hx; exact h k hk), nsl_eq, decide_eq_true hl]
    simp [hc]
  obtain ⟨m, hm⟩ := hM.out
  have cC := Tryz.strings_Contains ⟨(c :: t).toArray⟩ ⟨#[47, 47]⟩ m w (by simp [ByteArray.size] at *; omega) hm
  have cS := Tryz.strings_HasSuffix ⟨(c :: t).toArray⟩ ⟨#[47]⟩ w (by simp [ByteArray.size] at *; omega)
  have cL := lod_any c w
  rw [hc] at cL
  have cC : Calls Tryz.prog 64 #[.string ⟨(c :: t).toArray⟩, .string ⟨#[47, 47]⟩] w fun e w' => e = .returned (.bool (Lib.contains (c :: t) [47, 47])) ∧ w' = w := cC
  have cS : Calls Tryz.prog 65 #[.string ⟨(c :: t).toArray⟩, .string ⟨#[47]⟩] w fun e w' => e = .returned (.bool (Lib.hasSuffix (c :: t) [47])) ∧ w' = w := cS
  generalize Lib.contains (c :: t) [47, 47] = y1 at cC HY
  generalize Lib.hasSuffix (c :: t) [47] = y2 at cS HY
  clear hr hc hm hM
  simp only [List.length_cons] at hl
  go_enter Tryz.func16, Tryz.ntmps16
  go_wp2_with (go_at_call 63; refine cL.mono ?_; rintro e w' ⟨rfl, rfl⟩)
  go_loop [20] (fun i => ∃ k : Nat, k ≤ (c :: t).length ∧ i = .int .i64 k ∧ Hid (∀ j (hj : j < (c :: t).length), j < k → pch (c :: t)[j] = true)) (fun i => (c :: t).length - (intOf i).toNat)
  case atStart => exact ⟨0, Nat.zero_le _, rfl, fun j _ h => absurd h (Nat.not_lt_zero _)⟩
  case round =>
    obtain ⟨k, hk, rfl, HP⟩ := hrel
    by_cases hlt : k < (c :: t).length
    · have HM : Hid (pch (c :: t)[k] = true → ∀ j (hj : j < (c :: t).length), j < k + 1 → pch (c :: t)[j] = true) := fun hc j hj h => by
        by_cases e : j = k
        · subst e; exact hc
        · exact HP.out j hj (by omega)
      have HN' := Lib.hid (HN.out k hlt)
      clear HN HY HP cC cS
      obtain ⟨x, hx⟩ : ∃ x, x = (c :: t)[k] := ⟨_, rfl⟩
      have HX : Hid (pch x = true → pch (c :: t)[k] = true) := fun h => by rw [← hx]; exact h
      have HX' : Hid (pch x = false → pch (c :: t)[k] = false) := fun h => by rw [← hx]; exact h
      have hbx : ∀ (h : k < (ByteArray.mk (c :: t).toArray).size), (ByteArray.mk (c :: t).toArray)[k]'h = x := fun h => hx.symm
      clear hx
      simp only [List.length_cons] at hlt
      by_cases g1 : x.toNat < 33
      · have hr := HN'.out (HX'.out (by unfold pch; rw [decide_eq_false (by omega : ¬ 33 ≤ x.toNat)]; rfl))
        subst hr
        go_wp2
        go_ret
        exact ⟨rfl, rfl⟩
      · by_cases g2 : 126 < x.toNat
        · have hr := HN'.out (HX'.out (by unfold pch; rw [decide_eq_false (by omega : ¬ x.toNat ≤ 126)]; simp))
          subst hr
          go_wp2
          go_ret
          exact ⟨rfl, rfl⟩
        · by_cases g3 : x.toNat = 44
          · have hr := HN'.out (HX'.out (by unfold pch; rw [decide_eq_true g3]; simp))
            subst hr
            go_wp2
            go_ret
            exact ⟨rfl, rfl⟩
          · have HG := Lib.hid (HM.out (HX.out (by unfold pch; rw [decide_eq_true (by omega : 33 ≤ x.toNat), decide_eq_true (by omega : x.toNat ≤ 126), decide_eq_false g3]; rfl)))
            have g3' : ((x.toNat : Int) == 44) = false := by rw [beq_eq_false_iff_ne]; omega
            go_wp2
            exact ⟨⟨k + 1, hlt, by go_num, HG⟩, by simp [intOf]; omega⟩
    · have hr := HY.out (fun j hj => HP.out j hj (by omega))
      subst hr
      simp only [List.length_cons] at hlt
      clear HN HY HP
      cases y1
      all_goals
        go_wp2_with (first | (go_at_call 64; refine cC.mono ?_; rintro e w' ⟨rfl, rfl⟩) | (go_at_call 65; refine cS.mono ?_; rintro e w' ⟨rfl, rfl⟩))
        go_ret
        exact ⟨rfl, rfl⟩
set_option maxHeartbeats 800000 in
set_option maxRecDepth 100000 in
theorem path_no (c : UInt8) (t : List UInt8) (w : World) (hl : (c :: t).length ≤ 60) (hc : lod c = false) : Calls Tryz.prog 16 #[.string ⟨(c :: t).toArray⟩] w fun e w' => e = .returned (.bool false) ∧ w' = w := by
  have cL := lod_any c w
  rw [hc] at cL
  simp only [List.length_cons] at hl
  go_enter Tryz.func16, Tryz.ntmps16
  go_wp2_with (go_at_call 63; refine cL.mono ?_; rintro e w' ⟨rfl, rfl⟩)
  go_ret
  exact ⟨rfl, rfl⟩
set_option maxHeartbeats 800000 in
set_option maxRecDepth 100000 in
theorem path_long (l : List UInt8) (w : World) (hl : 60 < l.length) : Calls Tryz.prog 16 #[.string ⟨l.toArray⟩] w fun e w' => e = .returned (.bool false) ∧ w' = w := by
  have h1 : l.isEmpty = false := by cases l with
    | nil => simp at hl
    | cons c t => rfl
  go_enter Tryz.func16, Tryz.ntmps16
  go_wp2
  go_ret
  exact ⟨rfl, rfl⟩
theorem path_nil (w : World) : Calls Tryz.prog 16 #[.string ⟨([] : List UInt8).toArray⟩] w fun e w' => e = .returned (.bool false) ∧ w' = w := by
  go_enter Tryz.func16, Tryz.ntmps16
  go_wp2
  go_ret
  exact ⟨rfl, rfl⟩
/-- Whether a text is a path. -/
theorem path_any (l : List UInt8) (w : World) (hM : MaxN w) : Calls Tryz.prog 16 #[.string ⟨l.toArray⟩] w fun e w' => e = .returned (.bool (pth l)) ∧ w' = w := by
  cases l with
  | nil => exact path_nil w
  | cons c t =>
    by_cases hl : (c :: t).length ≤ 60
    · cases hc : lod c with
      | true => exact path_cons c t w hl hc hM
      | false =>
        rw [show pth (c :: t) = false from by unfold pth; simp [hc]]
        exact path_no c t w hl hc
    · rw [show pth (c :: t) = false from by unfold pth; rw [decide_eq_false hl]; simp]
      exact path_long _ w (by omega)

set_option maxHeartbeats 8000000 in
set_option maxRecDepth 100000 in
/-- The reference's. -/
theorem xpath_any (l : List UInt8) (w : World) (hl : l.length ≤ 1000) : Calls Tryz.prog 17 #[.string ⟨l.toArray⟩] w fun e w' => e = .returned (.bool (pth l)) ∧ w' = w := by
  obtain ⟨r, hr⟩ : ∃ r, r = pth l := ⟨_, rfl⟩
  rw [← hr]
  have HN : Hid (∀ k (hk : k < l.length), (pch l[k] && !bad l k) = false → r = false) := fun k hk h => by
    rw [hr]; unfold pth
    rw [Bool.and_eq_false_iff] at h
    rcases h with h | h
    · rw [show l.all pch = false from List.all_eq_false.2 ⟨_, List.getElem_mem hk, by rw [h]; simp⟩]; simp
    · have : nsl l = false := by
        cases hn : nsl l with
        | false => rfl
        | true => rw [(nsl_iff l).1 hn k hk] at h; cases h
      rw [this]; simp
  have HY : Hid ((∀ k (hk : k < l.length), (pch l[k] && !bad l k) = true) → r = ((decide (0 < l.length) && decide (l.length ≤ 60)) && lod (l.headD 0))) := fun h => by
    rw [hr]; unfold pth
    rw [show l.all pch = true from List.all_eq_true.2 (fun x hx => by obtain ⟨k, hk, rfl⟩ := List.getElem_of_mem hx; have := h k hk; rw [Bool.and_eq_true] at this; exact this.1), (nsl_iff l).2 (fun i hi => by have := h i hi; simp only [Bool.and_eq_true, Bool.not_eq_true'] at this; exact this.2)]
    simp
  clear hr
  have cD := fun (c : UInt8) W => xdigit_any c W
  have cE := fun (c : UInt8) W => xletter_any c W
  go_enter Tryz.func17, Tryz.ntmps17
  go_wp2_with fail
  go_loop [6] (fun i => ∃ k : Nat, k ≤ l.length ∧ i = .int .i64 k ∧ Hid (∀ j (hj : j < l.length), j < k → (pch l[j] && !bad l j) = true)) (fun i => l.length - (intOf i).toNat)
  case atStart => exact ⟨0, Nat.zero_le _, rfl, fun j _ h => absurd h (Nat.not_lt_zero _)⟩
  case round =>
    obtain ⟨k, hk, rfl, HP⟩ := hrel
    by_cases hlt : k < l.length
    · have HM : Hid ((pch l[k] && !bad l k) = true → ∀ j (hj : j < l.length), j < k + 1 → (pch l[j] && !bad l j) = true) := fun hc j hj h => by
        by_cases e : j = k
        · subst e; exact hc
        · exact HP.out j hj (by omega)
      have HN' := Lib.hid (HN.out k hlt)
      clear HN HY HP
      obtain ⟨x, hx⟩ : ∃ x, x = l[k] := ⟨_, rfl⟩
      have hb0 : l[k]? = some x := by rw [hx]; exact List.getElem?_eq_getElem hlt
      have hbx : ∀ (h : k < (ByteArray.mk l.toArray).size), (ByteArray.mk l.toArray)[k]'h = x := fun h => hx.symm
      rw [← hx] at HM HN'
      clear hx
      have cI := fun W => xin3_any (x.toNat : Int) 33 126 W
      by_cases g1 : 33 ≤ x.toNat ∧ x.toNat ≤ 126
      · rw [show (decide ((33 : Int) ≤ (x.toNat : Int)) && decide ((x.toNat : Int) ≤ 126)) = true from by simp; omega] at cI
        by_cases g3 : x.toNat = 44
        · have hr := HN'.out (by unfold pch; rw [decide_eq_true g3]; simp)
          subst hr
          have g3' : ((x.toNat : Int) == 44) = true := by simp; omega
          clear HM HN' hb0 g3
          go_wp2_with (go_at_call 66; with_reducible refine (cI _).mono ?_; rintro e w' ⟨rfl, rfl⟩)
          go_ret
          exact ⟨rfl, rfl⟩
        · have hp : pch x = true := by unfold pch; rw [decide_eq_true g1.1, decide_eq_true g1.2, decide_eq_false g3]; rfl
          have g3' : ((x.toNat : Int) == 44) = false := by rw [beq_eq_false_iff_ne]; omega
          by_cases g4 : x.toNat = 47
          · have hx47 : x = 47 := UInt8.toNat_inj.1 g4
            have g4' : ((x.toNat : Int) == 47) = true := by simp; omega
            clear g4
            by_cases g5 : k + 1 = l.length
            · have hr := HN'.out (by rw [hp]; unfold bad; rw [hb0, hx47, decide_eq_true g5]; rfl)
              subst hr
              have g5' : ((k : Int) == (l.length : Int) - 1) = true := by simp; omega
              clear HM HN' hb0 hx47 hp
              go_wp2_with (go_at_call 66; with_reducible refine (cI _).mono ?_; rintro e w' ⟨rfl, rfl⟩)
              go_ret
              exact ⟨rfl, rfl⟩
            · have hk1 : k + 1 < l.length := by omega
              obtain ⟨y, hy⟩ : ∃ y, y = l[k + 1] := ⟨_, rfl⟩
              have hb1 : l[k + 1]? = some y := by rw [hy]; exact List.getElem?_eq_getElem hk1
              have hby : ∀ (h : k + 1 < (ByteArray.mk l.toArray).size), (ByteArray.mk l.toArray)[k + 1]'h = y := fun h => hy.symm
              clear hy
              have g5' : ((k : Int) == (l.length : Int) - 1) = false := by rw [beq_eq_false_iff_ne]; omega
              by_cases g6 : y.toNat = 47
              · have hr := HN'.out (by rw [hp]; unfold bad; rw [hb0, hx47, hb1, UInt8.toNat_inj.1 (show y.toNat = (47 : UInt8).toNat from g6)]; simp)
                subst hr
                have g6' : ((y.toNat : Int) == 47) = true := by simp; omega
                clear HM HN' hb0 hx47 hp hb1 g6
                go_wp2_with (go_at_call 66; with_reducible refine (cI _).mono ?_; rintro e w' ⟨rfl, rfl⟩)
                go_ret
                exact ⟨rfl, rfl⟩
              · have HG := Lib.hid (HM.out (by rw [hp]; unfold bad; rw [hb1, decide_eq_false g5, decide_eq_false (p := some y = some (47 : UInt8)) (fun e => g6 (by rw [Option.some.inj e]; rfl))]; simp))
                have g6' : ((y.toNat : Int) == 47) = false := by rw [beq_eq_false_iff_ne]; omega
                clear HM HN' hb0 hx47 hp hb1
                go_wp2_with (go_at_call 66; with_reducible refine (cI _).mono ?_; rintro e w' ⟨rfl, rfl⟩)
                exact ⟨⟨k + 1, hlt, by go_num, HG⟩, by simp [intOf]; omega⟩
          · have HG := Lib.hid (HM.out (by rw [hp]; unfold bad; rw [hb0, decide_eq_false (p := some x = some (47 : UInt8)) (fun e => g4 (by rw [Option.some.inj e]; rfl))]; rfl))
            have g4' : ((x.toNat : Int) == 47) = false := by rw [beq_eq_false_iff_ne]; omega
            clear HM HN' hb0 hp
            go_wp2_with (go_at_call 66; with_reducible refine (cI _).mono ?_; rintro e w' ⟨rfl, rfl⟩)
            exact ⟨⟨k + 1, hlt, by go_num, HG⟩, by simp [intOf]; omega⟩
      · have hr := HN'.out (by
          unfold pch
          rw [show (decide (33 ≤ x.toNat) && decide (x.toNat ≤ 126)) = false from by
            rw [Bool.and_eq_false_iff]; simp only [decide_eq_false_iff_not]; omega]; rfl)
        subst hr
        rw [show (decide ((33 : Int) ≤ (x.toNat : Int)) && decide ((x.toNat : Int) ≤ 126)) = false from by
            rw [Bool.and_eq_false_iff]; simp only [decide_eq_false_iff_not]; omega] at cI
        have hw : wrap64 (x.toNat : Int) = (x.toNat : Int) := w64 _ (by omega) (by have := x.toNat_lt; omega)
        clear HM HN' hb0
        go_wp2_with (go_at_call 66; with_reducible refine (cI _).mono ?_; rintro e w' ⟨rfl, rfl⟩)
        go_ret
        exact ⟨rfl, rfl⟩
    · have HR := Lib.hid (HY.out (fun j hj => HP.out j hj (by omega)))
      clear HN HY HP
      have cI := fun W => xin3_any (l.length : Int) 1 60 W
      by_cases g : 0 < l.length ∧ l.length ≤ 60
      · rw [show (decide ((1 : Int) ≤ (l.length : Int)) && decide ((l.length : Int) ≤ 60)) = true from by simp; omega] at cI
        cases l with
        | nil => simp at g
        | cons c t =>
          have hr : r = lod c := by rw [HR.out, decide_eq_true g.1, decide_eq_true g.2]; simp
          have HR2 := Lib.hid hr
          have cI : ∀ W, Calls Tryz.prog 66 #[.int .i64 ((t.length : Int) + 1), .int .i64 1, .int .i64 60] W fun x w' => x = .returned (.bool true) ∧ w' = W := fun W => by have := cI W; simpa using this
          simp only [List.length_cons] at g hlt hl
          clear HR hr
          cases hd : Vm.dg c
          all_goals
            have cD' := fun W => cD c W
            have cE' := fun W => cE c W
            rw [hd] at cD'
            go_wp2_with (first | (go_at_call 66; with_reducible refine (cI _).mono ?_; rintro e w' ⟨rfl, rfl⟩) | (go_at_call 67; refine (cD' _).mono ?_; rintro e w' ⟨rfl, rfl⟩) | (go_at_call 68; refine (cE' _).mono ?_; rintro e w' ⟨rfl, rfl⟩))
            go_ret
            exact ⟨ret_bool (by rw [HR2.out]; unfold lod; rw [hd]; rfl), rfl⟩
      · have hr : r = false := by
          rw [HR.out, show (decide (0 < l.length) && decide (l.length ≤ 60)) = false from by
            rw [Bool.and_eq_false_iff]; simp only [decide_eq_false_iff_not]; omega]; rfl
        subst hr
        rw [show (decide ((1 : Int) ≤ (l.length : Int)) && decide ((l.length : Int) ≤ 60)) = false from by
            rw [Bool.and_eq_false_iff]; simp only [decide_eq_false_iff_not]; omega] at cI
        go_wp2_with (go_at_call 66; with_reducible refine (cI _).mono ?_; rintro e w' ⟨rfl, rfl⟩)
        go_ret
        exact ⟨rfl, rfl⟩
end Go.Proofs.YtmlmdncepgcimaaGreatDoor

/- The walks of rightPaths, paths. -/
namespace Go.Proofs.YtmlmdncepgcimaaGreatDoor
open Go.RowKit Go.Shelf Go.Sort

/-- The i-th is a path that stands first there. -/
def pki (l : List (List UInt8)) (i : Nat) : Bool := pth (l.getD i []) && !((l.take i).contains (l.getD i []))
def pths (l : List (List UInt8)) : Bool := decide (l.length ≤ 20) && (List.range l.length).all (pki l)
theorem pki_at {l : List (List UInt8)} {i : Nat} (h : i < l.length) : pki l i = (pth l[i] && !((l.take i).contains l[i])) := by
  unfold pki; rw [show l.getD i [] = l[i] from by simp [List.getD, h]]
theorem pths_no {l : List (List UInt8)} {i : Nat} (h : i < l.length) (hn : pki l i = false) : pths l = false := by
  unfold pths
  rw [show (List.range l.length).all (pki l) = false from List.all_eq_false.2 ⟨i, List.mem_range.2 h, by rw [hn]; simp⟩]; simp
theorem pths_yes {l : List (List UInt8)} (h : ∀ i, i < l.length → pki l i = true) : pths l = decide (l.length ≤ 20) := by
  unfold pths
  rw [show (List.range l.length).all (pki l) = true from List.all_eq_true.2 (fun i hi => h i (List.mem_range.1 hi))]; simp
theorem ss_sl {W : World} {v : Value} {l : List (List UInt8)} (h : Ss W v l) : ∃ A c, v = .slice A l.length c := by
  rcases h.is with ⟨rfl, A, c, rfl⟩ | ⟨b, o, c, rfl, _⟩
  · exact ⟨A, c, rfl⟩
  · exact ⟨_, c, rfl⟩
theorem con_eq (l : List (List UInt8)) (i : Nat) (s : List UInt8) : Lib.containsS ((l.map fun x => ByteArray.mk x.toArray).take i) ⟨s.toArray⟩ = (l.take i).contains s := by
  rw [Bool.eq_iff_iff, Lib.containsS_iff, List.contains_iff_mem, ← List.map_take, List.mem_map]
  constructor
  · rintro ⟨x, hx, e⟩
    have : x.toArray = s.toArray := by simpa using congrArg ByteArray.data e
    have h2 : x = s := by simpa using congrArg Array.toList this
    rw [← h2]; exact hx
  · intro h; exact ⟨s, h, rfl⟩

set_option maxHeartbeats 1600000 in
set_option maxRecDepth 100000 in
theorem rpaths_row (b o c : Nat) (l : List (List UInt8)) (w : World) (h : Sr w b o l) (hc : l.length ≤ c) (hn : l.length ≤ 20) (hM : MaxN w) : Calls Tryz.prog 58 #[.slice (some ⟨b, o, none⟩) l.length c] w fun e w' => e = .returned (.bool (pths l)) ∧ w' = w := by
  obtain ⟨r, hr⟩ : ∃ r, r = pths l := ⟨_, rfl⟩
  rw [← hr]
  have HR := Lib.hid hr
  have HF := Lib.hid h
  have cP := fun s => path_any s w hM
  have cC := fun i (hi : i ≤ l.length) (s : List UInt8) => Tryz.slices_Contains_string b o i c (l.map fun x => ByteArray.mk x.toArray) ⟨s.toArray⟩ w (by simpa using hi) (by omega) (fun j hj => by
    have hj' : j < l.length := by simpa using hj
    rw [h.c j hj', show ((l.map fun x => ByteArray.mk x.toArray).getD j ByteArray.empty) = ByteArray.mk l[j].toArray from by simp [List.getD, hj']])
  clear h hr hM
  go_enter Tryz.func58, Tryz.ntmps58
  go_wp2_with fail
  go_loop [10] (fun i => ∃ k : Nat, k ≤ l.length ∧ i = .int .i64 k ∧ Hid (∀ j, j < l.length → j < k → pki l j = true)) (fun i => l.length - (intOf i).toNat)
  case atStart => exact ⟨0, Nat.zero_le _, rfl, fun j _ h => absurd h (Nat.not_lt_zero _)⟩
  case round =>
    obtain ⟨k, hk, rfl, HP⟩ := hrel
    by_cases hlt : k < l.length
    · have c0 := HF.out.c k hlt
      have hpk := pki_at hlt
      have cC' := cC k hk l[k]
      rw [con_eq] at cC'
      have cP' := cP l[k]
      have HM : Hid (pki l k = true → ∀ j, j < l.length → j < k + 1 → pki l j = true) := fun hc j hj h => by
        by_cases e : j = k
        · subst e; exact hc
        · exact HP.out j hj (by omega)
      have HN : Hid (pki l k = false → r = false) := fun h => by rw [HR.out]; exact pths_no hlt h
      have HPK := Lib.hid hpk
      clear cC cP HP hpk
      generalize l[k] = s at c0 cC' cP' HPK
      cases hy : pth s with
      | false =>
        have hr := HN.out (by rw [HPK.out, hy]; rfl)
        subst hr
        rw [hy] at cP'
        go_wp2_with (go_at_call 16; refine cP'.mono ?_; rintro e w' ⟨rfl, rfl⟩)
        go_ret
        exact ⟨rfl, rfl⟩
      | true =>
        rw [hy] at cP' HPK
        generalize (l.take k).contains s = y at cC' HPK
        cases y with
        | false =>
          have HG := Lib.hid (HM.out HPK.out)
          go_wp2_with (first | (go_at_call 16; refine cP'.mono ?_; rintro e w' ⟨rfl, rfl⟩) | (go_at_call 132; refine cC'.mono ?_; rintro e w' ⟨rfl, rfl⟩))
          exact ⟨⟨k + 1, hlt, by go_num, HG⟩, by simp [intOf]; omega⟩
        | true =>
          have hr := HN.out HPK.out
          subst hr
          go_wp2_with (first | (go_at_call 16; refine cP'.mono ?_; rintro e w' ⟨rfl, rfl⟩) | (go_at_call 132; refine cC'.mono ?_; rintro e w' ⟨rfl, rfl⟩))
          go_ret
          exact ⟨rfl, rfl⟩
    · have hr : r = true := by rw [HR.out, pths_yes (fun i hi => HP.out i hi (by omega)), decide_eq_true hn]
      subst hr
      go_wp2_with fail
      go_ret
      exact ⟨rfl, rfl⟩
theorem rpaths_nil (A : Option Addr) (c : Nat) (w : World) : Calls Tryz.prog 58 #[.slice A 0 c] w fun e w' => e = .returned (.bool true) ∧ w' = w := by
  go_enter Tryz.func58, Tryz.ntmps58
  go_wp2
  refine wp_loop_rounds 1 ?_
  rw [rounds_succ]
  go_wp2
  go_ret
  exact ⟨rfl, rfl⟩
theorem rpaths_long (A : Option Addr) (n c : Nat) (w : World) (h : 20 < n) : Calls Tryz.prog 58 #[.slice A n c] w fun e w' => e = .returned (.bool false) ∧ w' = w := by
  go_enter Tryz.func58, Tryz.ntmps58
  go_wp2
  go_ret
  exact ⟨rfl, rfl⟩
theorem rpaths_any (v : Value) (l : List (List UInt8)) (w : World) (h : Ss w v l) (hM : MaxN w) : Calls Tryz.prog 58 #[v] w fun e w' => e = .returned (.bool (pths l)) ∧ w' = w := by
  rcases h.is with ⟨rfl, A, c, rfl⟩ | ⟨b, o, c, rfl, hc, hf⟩
  · exact rpaths_nil A c w
  · by_cases hn : l.length ≤ 20
    · exact rpaths_row b o c l w hf hc hn hM
    · rw [show pths l = false from by unfold pths; rw [decide_eq_false hn]; rfl]
      exact rpaths_long _ _ c w (by omega)

set_option maxHeartbeats 1600000 in
set_option maxRecDepth 100000 in
theorem xpaths_row (b o c : Nat) (l : List (List UInt8)) (w : World) (h : Sr w b o l) (hc : l.length ≤ c) (hn : l.length ≤ 1000) (hs : ∀ s ∈ l, s.length ≤ 1000) : Calls Tryz.prog 62 #[.slice (some ⟨b, o, none⟩) l.length c] w fun e w' => e = .returned (.bool (pths l)) ∧ w' = w := by
  obtain ⟨r, hr⟩ : ∃ r, r = pths l := ⟨_, rfl⟩
  rw [← hr]
  have HR := Lib.hid hr
  have HF := Lib.hid h
  have HS := Lib.hid hs
  clear h hr hs
  go_enter Tryz.func62, Tryz.ntmps62
  go_wp2_with fail
  go_loop [9] (fun i => ∃ k : Nat, k ≤ l.length ∧ i = .int .i64 k ∧ Hid (∀ j, j < l.length → j < k → pki l j = true)) (fun i => l.length - (intOf i).toNat)
  case atStart => exact ⟨0, Nat.zero_le _, rfl, fun j _ h => absurd h (Nat.not_lt_zero _)⟩
  case round =>
    obtain ⟨k, hk, rfl, HP⟩ := hrel
    by_cases hlt : k < l.length
    · have c0 := HF.out.c k hlt
      have HPK := Lib.hid (pki_at hlt)
      have HSk := HS.out l[k] (List.getElem_mem hlt)
      have HM : Hid (pki l k = true → ∀ j, j < l.length → j < k + 1 → pki l j = true) := fun hc j hj h => by
        by_cases e : j = k
        · subst e; exact hc
        · exact HP.out j hj (by omega)
      have HN : Hid (pki l k = false → r = false) := fun h => by rw [HR.out]; exact pths_no hlt h
      clear HP
      generalize l[k] = s at c0 HPK HSk
      have cP := xpath_any s w HSk
      go_wp2_with fail
      go_loop [18] (fun i => ∃ m : Nat, m ≤ k ∧ i = .int .i64 m ∧ Hid (∀ j (hj : j < l.length), j < m → l[j] ≠ s)) (fun i => k - (intOf i).toNat)
      case atStart => exact ⟨0, Nat.zero_le _, rfl, fun j _ h => absurd h (Nat.not_lt_zero _)⟩
      case round =>
        obtain ⟨m, hm, rfl, HJ⟩ := hrel
        by_cases hml : m < k
        · have hml' : m < l.length := by omega
          have c1 := HF.out.c m hml'
          have HJ2 : Hid (l[m] ≠ s → ∀ j (hj : j < l.length), j < m + 1 → l[j] ≠ s) := fun hc j hj h => by
            by_cases e : j = m
            · subst e; exact hc
            · exact HJ.out j hj (by omega)
          have HE : Hid (l[m] = s → r = false) := fun e => HN.out (by
            rw [HPK.out, show (l.take k).contains s = true from by
              rw [List.contains_iff_mem, ← e]; exact List.mem_take_iff_getElem.2 ⟨m, by omega, rfl⟩]; simp)
          clear HJ HM HN HPK
          generalize l[m] = u at c1 HJ2 HE
          by_cases he : u = s
          · have hr := HE.out he
            subst hr
            have he' : (s == u) = true := by simp [he]
            clear HE HJ2
            subst he
            go_wp2_with fail
            go_ret
            exact ⟨rfl, rfl⟩
          · have HG := Lib.hid (HJ2.out he)
            have he' : (s == u) = false := by rw [beq_eq_false_iff_ne]; exact fun e => he e.symm
            clear HE HJ2 he
            go_wp2_with fail
            exact ⟨⟨m + 1, hml, by go_num, HG⟩, by simp [intOf]; omega⟩
        · have HC : Hid ((l.take k).contains s = false) := by
            show (l.take k).contains s = false
            cases hc : (l.take k).contains s with
            | false => rfl
            | true =>
              rw [List.contains_iff_mem] at hc
              obtain ⟨j, hj, e⟩ := List.mem_take_iff_getElem.1 hc
              exact absurd e (HJ.out j (by omega) (by omega))
          have HPK2 : Hid (pki l k = pth s) := by show _ = _; rw [HPK.out, HC.out]; simp
          clear HJ HC HPK
          cases hy : pth s with
          | false =>
            have hr := HN.out (by rw [HPK2.out, hy])
            subst hr
            rw [hy] at cP
            go_wp2_with (go_at_call 17; refine cP.mono ?_; rintro e w' ⟨rfl, rfl⟩)
            go_ret
            exact ⟨rfl, rfl⟩
          | true =>
            have HG := Lib.hid (HM.out (by rw [HPK2.out, hy]))
            rw [hy] at cP
            go_wp2_with (go_at_call 17; refine cP.mono ?_; rintro e w' ⟨rfl, rfl⟩)
            exact ⟨⟨k + 1, hlt, by go_num, HG⟩, by simp [intOf]; omega⟩
    · have hr : r = decide (l.length ≤ 20) := by rw [HR.out, pths_yes (fun i hi => HP.out i hi (by omega))]
      have HR2 := Lib.hid hr
      clear hr
      go_wp2_with fail
      go_ret
      exact ⟨ret_bool (by rw [HR2.out, Bool.eq_iff_iff]; simp; omega), rfl⟩
theorem xpaths_nil (A : Option Addr) (c : Nat) (w : World) : Calls Tryz.prog 62 #[.slice A 0 c] w fun e w' => e = .returned (.bool true) ∧ w' = w := by
  go_enter Tryz.func62, Tryz.ntmps62
  go_wp2
  refine wp_loop_rounds 1 ?_
  rw [rounds_succ]
  go_wp2
  go_ret
  exact ⟨rfl, rfl⟩
theorem xpaths_any (v : Value) (l : List (List UInt8)) (w : World) (h : Ss w v l) (hn : l.length ≤ 1000) (hs : ∀ s ∈ l, s.length ≤ 1000) : Calls Tryz.prog 62 #[v] w fun e w' => e = .returned (.bool (pths l)) ∧ w' = w := by
  rcases h.is with ⟨rfl, A, c, rfl⟩ | ⟨b, o, c, rfl, hc, hf⟩
  · exact xpaths_nil A c w
  · exact xpaths_row b o c l w hf hc hn hs
end Go.Proofs.YtmlmdncepgcimaaGreatDoor

/- The walks of the law's sameTerms, sameAsked at lists that are the same. -/
namespace Go.Proofs.YtmlmdncepgcimaaGreatDoor
open Go.RowKit Go.Shelf Go.Sort

set_option maxHeartbeats 800000 in
set_option maxRecDepth 100000 in
theorem lst_nil (A A' : Option Addr) (c c' : Nat) (w : World) : Calls Tryz.prog 85 #[.slice A 0 c, .slice A' 0 c'] w fun e w' => e = .returned (.bool true) ∧ w' = w := by
  go_enter Tryz.func85, Tryz.ntmps85
  go_wp2
  refine wp_loop_rounds 1 ?_
  rw [rounds_succ]
  go_wp2
  go_ret
  exact ⟨rfl, rfl⟩

set_option maxHeartbeats 1600000 in
set_option maxRecDepth 100000 in
theorem lst_row (b o c b' o' c' : Nat) (x : List Tm) (w : World) (h : Tl w b o x) (h' : Tl w b' o' x) (hn : x.length ≤ 1000) : Calls Tryz.prog 85 #[.slice (some ⟨b, o, none⟩) x.length c, .slice (some ⟨b', o', none⟩) x.length c'] w fun e w' => e = .returned (.bool true) ∧ Below w.heap.size w w' := by
  have HF := Lib.hid h
  have HF' := Lib.hid h'
  clear h h'
  go_enter Tryz.func85, Tryz.ntmps85
  go_wp2
  go_loopw [5] (fun v W => ∃ j : Nat, j ≤ x.length ∧ v = .int .i64 j ∧ Below w.heap.size w W) (fun v _ => x.length - (intOf v).toNat)
  case atStart => exact ⟨0, Nat.zero_le _, rfl, Below.refl _ _⟩
  case round =>
    obtain ⟨j, hj, rfl, hb⟩ := hrel
    by_cases hlt2 : j < x.length
    · have hTl := HF.out
      have hTl' := HF'.out
      have e0 := cell_regrown ((hb.cell (p := ⟨b, o + j * 5, none⟩) hTl.lt).trans (hTl.c0 j hlt2))
      have e1 := cell_regrown ((hb.cell (p := ⟨b, o + j * 5 + 1, none⟩) hTl.lt).trans (hTl.c1 j hlt2))
      have e2 := cell_regrown ((hb.cell (p := ⟨b, o + j * 5 + 2, none⟩) hTl.lt).trans (hTl.c2 j hlt2))
      have e3 := cell_regrown ((hb.cell (p := ⟨b, o + j * 5 + 3, none⟩) hTl.lt).trans (hTl.c3 j hlt2))
      have e4 := cell_regrown ((hb.cell (p := ⟨b, o + j * 5 + 4, none⟩) hTl.lt).trans (hTl.c4 j hlt2))
      have f0 := cell_regrown ((hb.cell (p := ⟨b', o' + j * 5, none⟩) hTl'.lt).trans (hTl'.c0 j hlt2))
      have f1 := cell_regrown ((hb.cell (p := ⟨b', o' + j * 5 + 1, none⟩) hTl'.lt).trans (hTl'.c1 j hlt2))
      have f2 := cell_regrown ((hb.cell (p := ⟨b', o' + j * 5 + 2, none⟩) hTl'.lt).trans (hTl'.c2 j hlt2))
      have f3 := cell_regrown ((hb.cell (p := ⟨b', o' + j * 5 + 3, none⟩) hTl'.lt).trans (hTl'.c3 j hlt2))
      have f4 := cell_regrown ((hb.cell (p := ⟨b', o' + j * 5 + 4, none⟩) hTl'.lt).trans (hTl'.c4 j hlt2))
      clear hTl hTl'
      go_wp2_with fail
      refine wp_region_quiet_below (by kernel_rfl) (by kernel_rfl) ?_
      repeat (any_goals (first | go_big_quiet_step (fail) | quiet_step (fail)))
      refine wpQuiet_nil ?_
      intro _ hw'
      obtain ⟨⟨dq, osq⟩, hw''⟩ := hw'
      subst hw''
      have hb2 := rg hb ⟨⟨dq, osq⟩, rfl⟩
      go_wp2_with fail
      exact ⟨⟨j + 1, hlt2, by go_num, hb2⟩, by simp [intOf]; omega⟩
    · go_wp2
      go_ret
      exact ⟨rfl, hb⟩

/-- Terms that are the same are found so. -/
theorem lst_any (v v' : Value) (x : List Tm) (w : World) (h : Ts w v x) (h' : Ts w v' x) (hn : x.length ≤ 1000) : Calls Tryz.prog 85 #[v, v'] w fun e w' => e = .returned (.bool true) ∧ Below w.heap.size w w' := by
  by_cases h0 : x = []
  · subst h0
    obtain ⟨A, c, rfl⟩ := ts_sl h
    obtain ⟨A', c', rfl⟩ := ts_sl h'
    exact (lst_nil A A' c c' w).mono fun e w' ⟨he, hw⟩ => ⟨he, by rw [hw]; exact Below.refl _ _⟩
  · rcases h.is with ⟨e, _⟩ | ⟨b, o, c, rfl, _, hA⟩
    · exact absurd e h0
    · rcases h'.is with ⟨e, _⟩ | ⟨b', o', c', rfl, _, hA'⟩
      · exact absurd e h0
      · exact lst_row b o c b' o' c' x w hA hA' hn

set_option maxHeartbeats 800000 in
set_option maxRecDepth 100000 in
theorem lsa_nil (A A' : Option Addr) (c c' : Nat) (w : World) : Calls Tryz.prog 84 #[.slice A 0 c, .slice A' 0 c'] w fun e w' => e = .returned (.bool true) ∧ w' = w := by
  go_enter Tryz.func84, Tryz.ntmps84
  go_wp2
  refine wp_loop_rounds 1 ?_
  rw [rounds_succ]
  go_wp2
  go_ret
  exact ⟨rfl, rfl⟩

set_option maxHeartbeats 1600000 in
set_option maxRecDepth 100000 in
theorem lsa_row (b o c b' o' c' : Nat) (l : List (List Tm)) (w : World) (h : Al w b o l) (h' : Al w b' o' l) (hn : l.length ≤ 1000) (hx : ∀ x ∈ l, x.length ≤ 1000) : Calls Tryz.prog 84 #[.slice (some ⟨b, o, none⟩) l.length c, .slice (some ⟨b', o', none⟩) l.length c'] w fun e w' => e = .returned (.bool true) ∧ Below w.heap.size w w' := by
  have HF := Lib.hid h
  have HF' := Lib.hid h'
  have HX := Lib.hid hx
  clear h h' hx
  go_enter Tryz.func84, Tryz.ntmps84
  go_wp2
  go_loopw [5] (fun v W => ∃ k : Nat, k ≤ l.length ∧ v = .int .i64 k ∧ Below w.heap.size w W) (fun v _ => l.length - (intOf v).toNat)
  case atStart => exact ⟨0, Nat.zero_le _, rfl, Below.refl _ _⟩
  case round =>
    obtain ⟨k, hk, rfl, hb⟩ := hrel
    by_cases hlt : k < l.length
    · obtain ⟨v, c0, hT⟩ := HF.out.c k hlt
      obtain ⟨v', c0', hT'⟩ := HF'.out.c k hlt
      have hxl := HX.out l[k] (List.getElem_mem hlt)
      have q0 := (hb.cell (p := ⟨b, o + k, none⟩) HF.out.lt).trans c0
      have q0' := (hb.cell (p := ⟨b', o' + k, none⟩) HF'.out.lt).trans c0'
      obtain ⟨x, hx⟩ : ∃ x, x = l[k] := ⟨_, rfl⟩
      rw [← hx] at hT hT' hxl
      obtain ⟨A, d, rfl⟩ := ts_sl hT
      obtain ⟨A', d', rfl⟩ := ts_sl hT'
      have g0 := cell_regrown q0
      have g0' := cell_regrown q0'
      have d1 : ∀ d0 os, Calls Tryz.prog 85 #[.slice A x.length d, .slice A' x.length d'] (grow (redrawn wr d0) os) fun z w'' => z = .returned (.bool true) ∧ ∃ p : Regrown, w'' = grow (redrawn wr p.d) p.os := fun d0 os => Calls.regrown_of (lst_any _ _ x _ (hT.on (bt2 hb (below_regrown wr d0 os))) (hT'.on (bt2 hb (below_regrown wr d0 os))) hxl)
      clear hx hT hT' c0 c0'
      go_wp2_with fail
      refine wp_region_quiet_below (by kernel_rfl) (by kernel_rfl) ?_
      repeat (any_goals (first | go_big_quiet_step (with_reducible exact d1 _ _) | quiet_step (with_reducible exact d1 _ _)))
      refine wpQuiet_nil ?_
      intro _ hw'
      obtain ⟨⟨dq, osq⟩, hw''⟩ := hw'
      subst hw''
      have hb2 := rg hb ⟨⟨dq, osq⟩, rfl⟩
      go_wp2_with fail
      exact ⟨⟨k + 1, hlt, by go_num, hb2⟩, by simp [intOf]; omega⟩
    · go_wp2
      go_ret
      exact ⟨rfl, hb⟩

/-- Lists that are the same are found so. -/
theorem lsa_any (v v' : Value) (l : List (List Tm)) (w : World) (h : As w v l) (h' : As w v' l) (hn : l.length ≤ 1000) (hx : ∀ x ∈ l, x.length ≤ 1000) : Calls Tryz.prog 84 #[v, v'] w fun e w' => e = .returned (.bool true) ∧ Below w.heap.size w w' := by
  by_cases h0 : l = []
  · subst h0
    obtain ⟨A, c, rfl⟩ := as_sl h
    obtain ⟨A', c', rfl⟩ := as_sl h'
    exact (lsa_nil A A' c c' w).mono fun e w' ⟨he, hw⟩ => ⟨he, by rw [hw]; exact Below.refl _ _⟩
  · rcases h.is with ⟨e, _⟩ | ⟨b, o, c, rfl, _, hA⟩
    · exact absurd e h0
    · rcases h'.is with ⟨e, _⟩ | ⟨b', o', c', rfl, _, hA'⟩
      · exact absurd e h0
      · exact lsa_row b o c b' o' c' l w hA hA' hn hx

end Go.Proofs.YtmlmdncepgcimaaGreatDoor

/- The walks of slices.IndexFunc and ContainsFunc over terms, with either closure; of Meets. -/
namespace Go.Proofs.YtmlmdncepgcimaaGreatDoor
open Go.RowKit Go.Sort

/-- A place, or -1. -/
def fx : Option Nat → Int
  | none => -1
  | some i => i
theorem fi_yes {α : Type} {q : α → Bool} {l : List α} (k : Nat) (hk : k < l.length) (h : q l[k] = true) (h2 : ∀ j (hj : j < l.length), j < k → q l[j] = false) : l.findIdx? q = some k := by
  rw [List.findIdx?_eq_some_iff_getElem]
  exact ⟨hk, h, fun j hj => by simp [h2 j (by omega) hj]⟩
theorem fi_no {α : Type} {q : α → Bool} {l : List α} (h : ∀ j (hj : j < l.length), q l[j] = false) : l.findIdx? q = none := by
  rw [List.findIdx?_eq_none_iff]
  intro x hx
  obtain ⟨j, hj, rfl⟩ := List.getElem_of_mem hx
  exact h j hj
theorem fx_any {α : Type} (q : α → Bool) (l : List α) : decide (0 ≤ fx (l.findIdx? q)) = l.any q := by
  cases h : l.findIdx? q with
  | none =>
    have : l.any q = false := by
      rw [List.any_eq_false]
      rw [List.findIdx?_eq_none_iff] at h
      intro x hx; simp [h x hx]
    rw [this]; rfl
  | some i =>
    obtain ⟨hi, hq, _⟩ := List.findIdx?_eq_some_iff_getElem.1 h
    have : l.any q = true := List.any_eq_true.2 ⟨l[i], List.getElem_mem hi, hq⟩
    rw [this]; simp [fx]
theorem reti {a b : Int} (h : a = b) : Ending.returned (.int .i64 a) = .returned (.int .i64 b) := by rw [h]

end Go.Proofs.YtmlmdncepgcimaaGreatDoor
