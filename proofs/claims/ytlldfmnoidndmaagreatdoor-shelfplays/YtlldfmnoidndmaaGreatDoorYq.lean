/- The walks of both Paths. -/
import Derived.Test.YtlldfmnoidndmaaGreatDoorTx
import Derived.Test.YtlldfmnoidndmaaGreatDoorDx
import Derived.Test.YtlldfmnoidndmaaGreatDoorSh
import Derived.Lib.IndexMore
import Derived.Test.YtlldfmnoidndmaaGreatDoorYa
namespace Go.Proofs.YtlldfmnoidndmaaGreatDoor
open Go.RowKit Go.Shelf Go.Sort

/-- A sign of a path. -/
def pch (c : UInt8) : Bool := (decide (33 ≤ c.toNat) && decide (c.toNat ≤ 126)) && !decide (c.toNat = 44)
/-- A slash at the end, or ahead of another one. -/
def bad (s : List UInt8) (i : Nat) : Bool := decide (s[i]? = some 47) && (decide (i + 1 = s.length) || decide (s[i + 1]? = some 47))
def nsl (s : List UInt8) : Bool := (List.range s.length).all fun i => !bad s i
def lod (c : UInt8) : Bool := Vm.dg c || Vm.lr c
/-- A path. -/
def pth (s : List UInt8) : Bool := (decide (0 < s.length) && decide (s.length ≤ 60)) && (lod (s.headD 0) && (s.all pch && nsl s))

theorem nsl_iff (s : List UInt8) : nsl s = true ↔ ∀ i, i < s.length → bad s i = false := by
  unfold nsl
  rw [List.all_eq_true]
  constructor
  · intro h i hi
    simpa using h i (List.mem_range.2 hi)
  · intro h i hi
    simpa using h i (List.mem_range.1 hi)
theorem occ2 {s : List UInt8} {i : Nat} : Lib.occAt s [47, 47] i = true ↔ s[i]? = some 47 ∧ s[i + 1]? = some 47 := by
  unfold Lib.occAt
  rw [List.isPrefixOf_iff_prefix]
  constructor
  · rintro ⟨t, ht⟩
    have h0 : (s.drop i)[0]? = some 47 := by rw [← ht]; rfl
    have h1 : (s.drop i)[1]? = some 47 := by rw [← ht]; rfl
    rw [List.getElem?_drop] at h0 h1
    exact ⟨by simpa using h0, h1⟩
  · rintro ⟨h0, h1⟩
    refine ⟨(s.drop i).drop 2, ?_⟩
    apply List.ext_getElem?
    intro j
    match j with
    | 0 => simpa [List.getElem?_drop] using h0.symm
    | 1 => simpa [List.getElem?_drop] using h1.symm
    | j + 2 => simp [List.getElem?_drop]; congr 1; omega
theorem nsl_eq (s : List UInt8) : nsl s = (!(Lib.contains s [47, 47]) && !(Lib.hasSuffix s [47])) := by
  rw [Bool.eq_iff_iff, nsl_iff]
  simp only [Bool.and_eq_true, Bool.not_eq_true', Lib.contains, Lib.hasSuffix]
  constructor
  · intro h
    constructor
    · rcases Lib.index_spec s [47, 47] with ⟨h1, _⟩ | ⟨i, h1, h2, h3, _⟩
      · rw [h1]; rfl
      · obtain ⟨a, b⟩ := occ2.1 h3
        have hi : i < s.length := (List.getElem?_eq_some_iff.1 a).1
        have := h i hi
        unfold bad at this
        simp [a, b] at this
    · cases hs : List.isSuffixOf [47] s with
      | false => rfl
      | true =>
        rw [List.isSuffixOf_iff_suffix] at hs
        obtain ⟨t, rfl⟩ := hs
        have := h t.length (by simp)
        unfold bad at this
        simp at this
  · rintro ⟨h1, h2⟩ i hi
    cases hb : bad s i with
    | false => rfl
    | true =>
      unfold bad at hb
      simp only [Bool.and_eq_true, decide_eq_true_eq, Bool.or_eq_true] at hb
      obtain ⟨a, b | b⟩ := hb
      · have : List.isSuffixOf [47] s = true := by
          rw [List.isSuffixOf_iff_suffix]
          refine ⟨s.take i, ?_⟩
          have hd : s.drop i = [47] := by
            rw [List.drop_eq_getElem_cons hi, List.drop_of_length_le (by omega)]
            rw [(List.getElem?_eq_some_iff.1 a).2]
          rw [← hd, List.take_append_drop]
        rw [this] at h2
        cases h2
      · exfalso
        have ho := occ2.2 ⟨a, b⟩
        rcases Lib.index_spec s [47, 47] with ⟨_, h3⟩ | ⟨j, h3, _⟩
        · rw [h3 i (by omega)] at ho; cases ho
        · rw [h3] at h1; simp at h1

theorem lod_any (c : UInt8) (w : World) : Calls Tryz.prog 74 #[.int .u8 c.toNat] w fun e w' => e = .returned (.bool (lod c)) ∧ w' = w := by
  go_enter Tryz.func74, Tryz.ntmps74
  go_wp2
  all_goals go_ret
  all_goals exact ⟨ret_bool (by unfold lod Vm.lr Vm.dg; rw [Bool.eq_iff_iff]; simp; omega), rfl⟩

/-- internal/bytealg.MaxLen holds some number. -/
structure MaxN (w : World) : Prop where
  out : ∃ m, w.cell? ⟨2, 0, none⟩ = some (.int .i64 m)
theorem MaxN.on {w w' : World} (h : MaxN w) (k : Below w.heap.size w w') : MaxN w' := by
  obtain ⟨m, hm⟩ := h.out
  exact ⟨m, by rw [k.cell (block_lt_of_cell hm)]; exact hm⟩

set_option maxHeartbeats 1600000 in
set_option maxRecDepth 100000 in
theorem path_cons (c : UInt8) (t : List UInt8) (w : World) (hl : (c :: t).length ≤ 60) (hc : lod c = true) (hM : MaxN w) : Calls Tryz.prog 30 #[.string ⟨(c :: t).toArray⟩] w fun e w' => e = .returned (.bool (pth (c :: t))) ∧ w' = w := by
  obtain ⟨r, hr⟩ : ∃ r, r = pth (c :: t) := ⟨_, rfl⟩
  rw [← hr]
  have HN : Hid (∀ k (hk : k < (c :: t).length), pch (c :: t)[k] = false → r = false) := fun k hk h => by
    rw [hr]; unfold pth
    rw [show (c :: t).all pch = false from List.all_eq_false.2 ⟨_, List.getElem_mem hk, by rw [h]; simp⟩]; simp
  have HY : Hid ((∀ k (hk : k < (c :: t).length), pch (c :: t)[k] = true) → r = (!(Lib.contains (c :: t) [47, 47]) && !(Lib.hasSuffix (c :: t) [47]))) := fun h => by
    rw [hr]; unfold pth
    rw [show (c :: t).all pch = true from List.all_eq_true.2 (fun x hx => by obtain ⟨k, hk, rfl⟩ := List.getElem_of_mem hx; exact h k hk), nsl_eq, decide_eq_true hl]
    simp [hc]
  obtain ⟨m, hm⟩ := hM.out
  have cC := Tryz.strings_Contains ⟨(c :: t).toArray⟩ ⟨#[47, 47]⟩ m w (by simp [ByteArray.size] at *; omega) hm
  have cS := Tryz.strings_HasSuffix ⟨(c :: t).toArray⟩ ⟨#[47]⟩ w (by simp [ByteArray.size] at *; omega)
  have cL := lod_any c w
  rw [hc] at cL
  have cC : Calls Tryz.prog 75 #[.string ⟨(c :: t).toArray⟩, .string ⟨#[47, 47]⟩] w fun e w' => e = .returned (.bool (Lib.contains (c :: t) [47, 47])) ∧ w' = w := cC
  have cS : Calls Tryz.prog 76 #[.string ⟨(c :: t).toArray⟩, .string ⟨#[47]⟩] w fun e w' => e = .returned (.bool (Lib.hasSuffix (c :: t) [47])) ∧ w' = w := cS
  generalize Lib.contains (c :: t) [47, 47] = y1 at cC HY
  generalize Lib.hasSuffix (c :: t) [47] = y2 at cS HY
  clear hr hc hm hM
  simp only [List.length_cons] at hl
  go_enter Tryz.func30, Tryz.ntmps30
  go_wp2_with (go_at_call 74; refine cL.mono ?_; rintro e w' ⟨rfl, rfl⟩)
  go_loop [20] (fun i => ∃ k : Nat, k ≤ (c :: t).length ∧ i = .int .i64 k ∧ Hid (∀ j (hj : j < (c :: t).length), j < k → pch (c :: t)[j] = true)) (fun i => (c :: t).length - (intOf i).toNat)
  case atStart => exact ⟨0, Nat.zero_le _, rfl, fun j _ h => absurd h (Nat.not_lt_zero _)⟩
  case round =>
    obtain ⟨k, hk, rfl, HP⟩ := hrel
    by_cases hlt : k < (c :: t).length
    · have HM : Hid (pch (c :: t)[k] = true → ∀ j (hj : j < (c :: t).length), j < k + 1 → pch (c :: t)[j] = true) := fun hc j hj h => by
        by_cases e : j = k
        · subst e; exact hc
        · exact HP.out j hj (by omega)
      have HN' := Lib.hid (HN.out k hlt)
      clear HN HY HP cC cS
      obtain ⟨x, hx⟩ : ∃ x, x = (c :: t)[k] := ⟨_, rfl⟩
      have HX : Hid (pch x = true → pch (c :: t)[k] = true) := fun h => by rw [← hx]; exact h
      have HX' : Hid (pch x = false → pch (c :: t)[k] = false) := fun h => by rw [← hx]; exact h
      have hbx : ∀ (h : k < (ByteArray.mk (c :: t).toArray).size), (ByteArray.mk (c :: t).toArray)[k]'h = x := fun h => hx.symm
      clear hx
      simp only [List.length_cons] at hlt
      by_cases g1 : x.toNat < 33
      · have hr := HN'.out (HX'.out (by unfold pch; rw [decide_eq_false (by omega : ¬ 33 ≤ x.toNat)]; rfl))
        subst hr
        go_wp2
        go_ret
        exact ⟨rfl, rfl⟩
      · by_cases g2 : 126 < x.toNat
        · have hr := HN'.out (HX'.out (by unfold pch; rw [decide_eq_false (by omega : ¬ x.toNat ≤ 126)]; simp))
          subst hr
          go_wp2
          go_ret
          exact ⟨rfl, rfl⟩
        · by_cases g3 : x.toNat = 44
          · have hr := HN'.out (HX'.out (by unfold pch; rw [decide_eq_true g3]; simp))
            subst hr
            go_wp2
            go_ret
            exact ⟨rfl, rfl⟩
          · have HG := Lib.hid (HM.out (HX.out (by unfold pch; rw [decide_eq_true (by omega : 33 ≤ x.toNat), decide_eq_true (by omega : x.toNat ≤ 126), decide_eq_false g3]; rfl)))
            have g3' : ((x.toNat : Int) == 44) = false := by rw [beq_eq_false_iff_ne]; omega
            go_wp2
            exact ⟨⟨k + 1, hlt, by go_num, HG⟩, by simp [intOf]; omega⟩
    · have hr := HY.out (fun j hj => HP.out j hj (by omega))
      subst hr
      simp only [List.length_cons] at hlt
      clear HN HY HP
      cases y1
      all_goals
        go_wp2_with (first | (go_at_call 75; refine cC.mono ?_; rintro e w' ⟨rfl, rfl⟩) | (go_at_call 76; refine cS.mono ?_; rintro e w' ⟨rfl, rfl⟩))
        go_ret
        exact ⟨rfl, rfl⟩
set_option maxHeartbeats 800000 in
set_option maxRecDepth 100000 in
theorem path_no (c : UInt8) (t : List UInt8) (w : World) (hl : (c :: t).length ≤ 60) (hc : lod c = false) : Calls Tryz.prog 30 #[.string ⟨(c :: t).toArray⟩] w fun e w' => e = .returned (.bool false) ∧ w' = w := by
  have cL := lod_any c w
  rw [hc] at cL
  simp only [List.length_cons] at hl
  go_enter Tryz.func30, Tryz.ntmps30
  go_wp2_with (go_at_call 74; refine cL.mono ?_; rintro e w' ⟨rfl, rfl⟩)
  go_ret
  exact ⟨rfl, rfl⟩
set_option maxHeartbeats 800000 in
set_option maxRecDepth 100000 in
theorem path_long (l : List UInt8) (w : World) (hl : 60 < l.length) : Calls Tryz.prog 30 #[.string ⟨l.toArray⟩] w fun e w' => e = .returned (.bool false) ∧ w' = w := by
  have h1 : l.isEmpty = false := by cases l with
    | nil => simp at hl
    | cons c t => rfl
  go_enter Tryz.func30, Tryz.ntmps30
  go_wp2
  go_ret
  exact ⟨rfl, rfl⟩
theorem path_nil (w : World) : Calls Tryz.prog 30 #[.string ⟨([] : List UInt8).toArray⟩] w fun e w' => e = .returned (.bool false) ∧ w' = w := by
  go_enter Tryz.func30, Tryz.ntmps30
  go_wp2
  go_ret
  exact ⟨rfl, rfl⟩
/-- Whether a text is a path. -/
theorem path_any (l : List UInt8) (w : World) (hM : MaxN w) : Calls Tryz.prog 30 #[.string ⟨l.toArray⟩] w fun e w' => e = .returned (.bool (pth l)) ∧ w' = w := by
  cases l with
  | nil => exact path_nil w
  | cons c t =>
    by_cases hl : (c :: t).length ≤ 60
    · cases hc : lod c with
      | true => exact path_cons c t w hl hc hM
      | false =>
        rw [show pth (c :: t) = false from by unfold pth; simp [hc]]
        exact path_no c t w hl hc
    · rw [show pth (c :: t) = false from by unfold pth; rw [decide_eq_false hl]; simp]
      exact path_long _ w (by omega)

end Go.Proofs.YtlldfmnoidndmaaGreatDoor
namespace Go.Proofs.YtlldfmnoidndmaaGreatDoor
open Go.RowKit Go.Shelf Go.Sort

/-- The i-th is a path that stands first there. -/
def pki (l : List (List UInt8)) (i : Nat) : Bool := pth (l.getD i []) && !((l.take i).contains (l.getD i []))
def pths (l : List (List UInt8)) : Bool := decide (l.length ≤ 20) && (List.range l.length).all (pki l)
theorem pki_at {l : List (List UInt8)} {i : Nat} (h : i < l.length) : pki l i = (pth l[i] && !((l.take i).contains l[i])) := by
  unfold pki; rw [show l.getD i [] = l[i] from by simp [List.getD, h]]
theorem pths_no {l : List (List UInt8)} {i : Nat} (h : i < l.length) (hn : pki l i = false) : pths l = false := by
  unfold pths
  rw [show (List.range l.length).all (pki l) = false from List.all_eq_false.2 ⟨i, List.mem_range.2 h, by rw [hn]; simp⟩]; simp
theorem pths_yes {l : List (List UInt8)} (h : ∀ i, i < l.length → pki l i = true) : pths l = decide (l.length ≤ 20) := by
  unfold pths
  rw [show (List.range l.length).all (pki l) = true from List.all_eq_true.2 (fun i hi => h i (List.mem_range.1 hi))]; simp
theorem ss_sl {W : World} {v : Value} {l : List (List UInt8)} (h : Ss W v l) : ∃ A c, v = .slice A l.length c := by
  rcases h.is with ⟨rfl, A, c, rfl⟩ | ⟨b, o, c, rfl, _⟩
  · exact ⟨A, c, rfl⟩
  · exact ⟨_, c, rfl⟩
theorem con_eq (l : List (List UInt8)) (i : Nat) (s : List UInt8) : Lib.containsS ((l.map fun x => ByteArray.mk x.toArray).take i) ⟨s.toArray⟩ = (l.take i).contains s := by
  rw [Bool.eq_iff_iff, Lib.containsS_iff, List.contains_iff_mem, ← List.map_take, List.mem_map]
  constructor
  · rintro ⟨x, hx, e⟩
    have : x.toArray = s.toArray := by simpa using congrArg ByteArray.data e
    have h2 : x = s := by simpa using congrArg Array.toList this
    rw [← h2]; exact hx
  · intro h; exact ⟨s, h, rfl⟩

set_option maxHeartbeats 1600000 in
set_option maxRecDepth 100000 in
theorem rpaths_row (b o c : Nat) (l : List (List UInt8)) (w : World) (h : Sr w b o l) (hc : l.length ≤ c) (hn : l.length ≤ 20) (hM : MaxN w) : Calls Tryz.prog 131 #[.slice (some ⟨b, o, none⟩) l.length c] w fun e w' => e = .returned (.bool (pths l)) ∧ w' = w := by
  obtain ⟨r, hr⟩ : ∃ r, r = pths l := ⟨_, rfl⟩
  rw [← hr]
  have HR := Lib.hid hr
  have HF := Lib.hid h
  have cP := fun s => path_any s w hM
  have cC := fun i (hi : i ≤ l.length) (s : List UInt8) => Tryz.slices_Contains_string b o i c (l.map fun x => ByteArray.mk x.toArray) ⟨s.toArray⟩ w (by simpa using hi) (by omega) (fun j hj => by
    have hj' : j < l.length := by simpa using hj
    rw [h.c j hj', show ((l.map fun x => ByteArray.mk x.toArray).getD j ByteArray.empty) = ByteArray.mk l[j].toArray from by simp [List.getD, hj']])
  clear h hr hM
  go_enter Tryz.func131, Tryz.ntmps131
  go_wp2_with fail
  go_loop [10] (fun i => ∃ k : Nat, k ≤ l.length ∧ i = .int .i64 k ∧ Hid (∀ j, j < l.length → j < k → pki l j = true)) (fun i => l.length - (intOf i).toNat)
  case atStart => exact ⟨0, Nat.zero_le _, rfl, fun j _ h => absurd h (Nat.not_lt_zero _)⟩
  case round =>
    obtain ⟨k, hk, rfl, HP⟩ := hrel
    by_cases hlt : k < l.length
    · have c0 := HF.out.c k hlt
      have hpk := pki_at hlt
      have cC' := cC k hk l[k]
      rw [con_eq] at cC'
      have cP' := cP l[k]
      have HM : Hid (pki l k = true → ∀ j, j < l.length → j < k + 1 → pki l j = true) := fun hc j hj h => by
        by_cases e : j = k
        · subst e; exact hc
        · exact HP.out j hj (by omega)
      have HN : Hid (pki l k = false → r = false) := fun h => by rw [HR.out]; exact pths_no hlt h
      have HPK := Lib.hid hpk
      clear cC cP HP hpk
      generalize l[k] = s at c0 cC' cP' HPK
      cases hy : pth s with
      | false =>
        have hr := HN.out (by rw [HPK.out, hy]; rfl)
        subst hr
        rw [hy] at cP'
        go_wp2_with (go_at_call 30; refine cP'.mono ?_; rintro e w' ⟨rfl, rfl⟩)
        go_ret
        exact ⟨rfl, rfl⟩
      | true =>
        rw [hy] at cP' HPK
        generalize (l.take k).contains s = y at cC' HPK
        cases y with
        | false =>
          have HG := Lib.hid (HM.out HPK.out)
          go_wp2_with (first | (go_at_call 30; refine cP'.mono ?_; rintro e w' ⟨rfl, rfl⟩) | (go_at_call 94; refine cC'.mono ?_; rintro e w' ⟨rfl, rfl⟩))
          exact ⟨⟨k + 1, hlt, by go_num, HG⟩, by simp [intOf]; omega⟩
        | true =>
          have hr := HN.out HPK.out
          subst hr
          go_wp2_with (first | (go_at_call 30; refine cP'.mono ?_; rintro e w' ⟨rfl, rfl⟩) | (go_at_call 94; refine cC'.mono ?_; rintro e w' ⟨rfl, rfl⟩))
          go_ret
          exact ⟨rfl, rfl⟩
    · have hr : r = true := by rw [HR.out, pths_yes (fun i hi => HP.out i hi (by omega)), decide_eq_true hn]
      subst hr
      go_wp2_with fail
      go_ret
      exact ⟨rfl, rfl⟩
theorem rpaths_nil (A : Option Addr) (c : Nat) (w : World) : Calls Tryz.prog 131 #[.slice A 0 c] w fun e w' => e = .returned (.bool true) ∧ w' = w := by
  go_enter Tryz.func131, Tryz.ntmps131
  go_wp2
  refine wp_loop_rounds 1 ?_
  rw [rounds_succ]
  go_wp2
  go_ret
  exact ⟨rfl, rfl⟩
theorem rpaths_long (A : Option Addr) (n c : Nat) (w : World) (h : 20 < n) : Calls Tryz.prog 131 #[.slice A n c] w fun e w' => e = .returned (.bool false) ∧ w' = w := by
  go_enter Tryz.func131, Tryz.ntmps131
  go_wp2
  go_ret
  exact ⟨rfl, rfl⟩
theorem rpaths_any (v : Value) (l : List (List UInt8)) (w : World) (h : Ss w v l) (hM : MaxN w) : Calls Tryz.prog 131 #[v] w fun e w' => e = .returned (.bool (pths l)) ∧ w' = w := by
  rcases h.is with ⟨rfl, A, c, rfl⟩ | ⟨b, o, c, rfl, hc, hf⟩
  · exact rpaths_nil A c w
  · by_cases hn : l.length ≤ 20
    · exact rpaths_row b o c l w hf hc hn hM
    · rw [show pths l = false from by unfold pths; rw [decide_eq_false hn]; rfl]
      exact rpaths_long _ _ c w (by omega)

end Go.Proofs.YtlldfmnoidndmaaGreatDoor
