/- Lists of numbers that are appended to; matching. -/
import Derived.Test.YtnebkdildnngeaaDoorOe
import Derived.Deep.AppendLies
import Derived.Lib.SmallJoins
namespace Go.Proofs.YtnebkdildnngeaaDoor
open Go.RowKit Go.Sort

theorem infoQ {t : TypeId} {z : Value} {s b : Nat} (h : (Tryd.prog.info? t).map (fun i => (i.zero, i.size, i.bytes)) = some (some z, s, b)) : ∃ i, Tryd.prog.info? t = some i ∧ i.zero = some z ∧ i.size = s ∧ i.bytes = b := by
  obtain ⟨i, hi, he⟩ := Option.map_eq_some_iff.1 h
  simp only [Prod.mk.injEq] at he
  exact ⟨i, hi, he.1, he.2.1, he.2.2⟩
theorem info3 : (Tryd.prog.info? 3).map (fun i => (i.zero, i.size, i.bytes)) = some (some (.int .i64 0), 1, 8) := by kernel_rfl
theorem nb0 (w : World) (o : Obj) : (w.alloc o).heap[w.heap.size]? = some o := by
  show (w.heap.push o)[w.heap.size]? = some o
  simp
abbrev eI (k : Nat) : Value := .int .i64 k
/-- Numbers of the call's own. -/
abbrev Iw (W : World) (B : Nat) (v : Value) (l : List Nat) : Prop := W.ownsRow B 3 1 v l.length (l.map eI)
theorem own_on {W W' : World} {B : Nat} {e : TypeId} {s n : Nat} {v : Value} {xs : List Value} (h : W.ownsRow B e s v n xs) (k : Below W.heap.size W W') : W'.ownsRow B e s v n xs := by
  refine ⟨h.1, ?_⟩
  rcases h.2 with hn | ⟨g, cap, cur, rfl, hb, hgg, rest⟩
  · exact .inl hn
  · exact .inr ⟨g, cap, cur, rfl, hb, (k.block g (Array.getElem?_eq_some_iff.1 hgg).1).trans hgg, rest⟩
theorem own_low {W : World} {B B' : Nat} {e : TypeId} {s n : Nat} {v : Value} {xs : List Value} (h : W.ownsRow B e s v n xs) (hb : B' ≤ B) : W.ownsRow B' e s v n xs :=
  ⟨h.1, h.2.imp id fun ⟨g, cap, cur, a, b, c⟩ => ⟨g, cap, cur, a, Nat.le_trans hb b, c⟩⟩
theorem iw_is {W : World} {B : Nat} {v : Value} {l : List Nat} (h : Iw W B v l) : Is W v l := by
  rcases h.2 with ⟨rfl, h0⟩ | ⟨g, cap, cur, rfl, hb, hg, hnc, hcm, hcs, htake⟩
  · exact ⟨.inl ⟨List.length_eq_zero_iff.1 h0, none, 0, rfl⟩⟩
  · refine ⟨.inr ⟨g, 0, cap, rfl, hnc, (Array.getElem?_eq_some_iff.1 hg).1, fun i hi => ?_⟩⟩
    rw [Nat.zero_add, World.ownsRow.cellAt h i (by omega)]
    simp [hi]
theorem iw_sl {W : World} {B : Nat} {v : Value} {l : List Nat} (h : Iw W B v l) : ∃ A c, v = .slice A l.length c := is_len (iw_is h)
/-- One more is appended. -/
theorem wpList_ap {W : World} {B : Nat} {S : Value} {l : List Nat} (k : Nat) (h : Iw W B S l) (hl : l.length ≤ 1000000) (hB : B ≤ W.heap.size)
    {ops : Array Oper} {rest : List Oper} {o : Oper} {a : Act} {Q : Exit → Act → World → Prop} (hg : o.guard = none) (s x : Operand) (hop : o.op = Op.call { callee := Callee.builtin Builtin.append, args := #[s, x], argTypes := #[37, 37] }) (hs : a.eval s = S) (N : Nat) (hx : a.eval x = .slice (some ⟨N, 0, none⟩) 1 1) (hN : N = W.heap.size)
    (K : ∀ g c w6, Iw w6 B (.slice (some ⟨g, 0, none⟩) (l.length + 1) c) (l ++ [k]) → (∀ B', B' ≤ B → Below B' W w6) → (W.alloc (.cells #[eI k] 3)).grownBy w6 S.ownBlock → wpList Tryd.prog ops Q rest (a.put o.dst (.slice (some ⟨g, 0, none⟩) (l.length + 1) c)) w6) :
    wpList Tryd.prog ops Q (o :: rest) a (W.alloc (.cells #[eI k] 3)) := by
  subst hN
  obtain ⟨i0, hi0, hz0, hz1, hz2⟩ := infoQ info3
  have news : ∀ j u, ([eI k])[j]? = some u → (W.alloc (.cells #[eI k] 3)).cell? ((⟨W.heap.size, 0, none⟩ : Addr).add j) = some u := World.news_of_block (nb0 W _)
  have ones : ∀ u ∈ [eI k], u.oneCell' = true := by intro u hu; simp at hu; rw [hu]; rfl
  refine wpList_append_lies _ hg s x 37 hop B 3 i0 _ 1 8 Tryd.underlying37 hi0 hz0 hz1 hz2 rfl (by decide) _ _ _ hs (h.alloc _) ⟨W.heap.size, 0, none⟩ 1 1 _ hx rfl news ones (by decide) (by unfold maxLen; omega) (by omega) (by rw [World.size_alloc]; omega) _ rfl ?_
  intro g' c' w6 hown hgr _ _
  have e : (l ++ [k]).length = l.length + 1 := by simp
  have h2 : Iw w6 B (.slice (some ⟨g', 0, none⟩) (l.length + 1) c') (l ++ [k]) := by
    unfold Iw
    rw [e, List.map_append]; exact hown
  exact K g' c' w6 h2 (fun B' hB' => ((bA1 W _).mono (Nat.le_trans hB' hB)).grown hgr (by rw [World.size_alloc]; omega) (fun j e => Nat.le_trans hB' (h.lt j e).1)) hgr
theorem filt_succ (f : Nat → Bool) (k : Nat) : (List.range (k + 1)).filter f = (List.range k).filter f ++ (if f k then [k] else []) := by
  rw [List.range_succ, List.filter_append]
  cases h : f k <;> simp [h]
theorem filt_le (f : Nat → Bool) (k : Nat) : ((List.range k).filter f).length ≤ k := by
  have := List.length_filter_le f (List.range k)
  simpa using this
set_option maxHeartbeats 1600000 in
set_option maxRecDepth 100000 in
theorem match_any (n : Nat) (p q : Value) (so : Nat → Bool) (w : World) (hn : n ≤ 40) (hq : ∀ i, i < n → ∀ W, Below w.heap.size w W → Calls Tryd.prog 25 #[eI i, p, q] W fun e w' => e = .returned (.bool (so i)) ∧ Below W.heap.size W w') :
    Calls Tryd.prog 24 #[eI n, .func (Fn.func 25) #[] #[p, q]] w fun e w' => ∃ v, e = .returned v ∧ Iw w' w.heap.size v ((List.range n).filter so) ∧ Below w.heap.size w w' := by
  have HQ := Lib.hid hq
  clear hq
  go_enter Tryd.func24, Tryd.ntmps24
  go_wp2
  go_loopw [5, 8] (fun v i W => ∃ k : Nat, k ≤ n ∧ i = .int .i64 k ∧ Below w.heap.size w W ∧ Hid (Iw W w.heap.size v ((List.range k).filter so))) (fun _ i _ => n - (intOf i).toNat)
  case atStart => exact ⟨0, Nat.zero_le _, rfl, Below.refl _ _, World.ownsRow_nil _ _ _ _⟩
  case round =>
    obtain ⟨k, hk, rfl, hW, hI⟩ := hrel
    by_cases hlt : k < n
    · have cC := HQ.out k hlt wr hW
      have HF := Lib.hid (filt_succ so k)
      have hle := filt_le so k
      obtain ⟨A, c, rfl⟩ := iw_sl hI.out
      generalize (List.range k).filter so = L at hI HF hle
      cases hs : so k with
      | true =>
        rw [hs] at cC HF
        have HF2 : Hid ((List.range (k + 1)).filter so = L ++ [k]) := HF.out
        go_wp2_with fail
        refine cC.mono ?_
        rintro e w1 ⟨rfl, b1⟩
        have hI1 := own_on hI.out b1
        have hW1 := bon hW b1
        clear hI cC
        go_wp2_with (first | (at_builtin; refine wpList_ap k hI1 (by omega) hW1.size rfl _ _ rfl rfl _ rfl rfl ?_; intro g c' w6 hI6 hB6 _) | fail)
        exact ⟨⟨k + 1, hlt, by go_num, hW1.trans (hB6 _ (Nat.le_refl _)), by show Iw _ _ _ _; rw [HF2.out]; exact hI6⟩, by simp [intOf]; omega⟩
      | false =>
        rw [hs] at cC HF
        go_wp2_with fail
        refine cC.mono ?_
        rintro e w1 ⟨rfl, b1⟩
        have hI1 := own_on hI.out b1
        have hW1 := bon hW b1
        clear hI cC
        have HI1 : Hid (Iw w1 w.heap.size (.slice A L.length c) ((List.range (k + 1)).filter so)) := by show Iw _ _ _ _; rw [HF.out]; simpa using hI1
        go_wp2_with fail
        exact ⟨⟨k + 1, hlt, by go_num, hW1, HI1⟩, by simp [intOf]; omega⟩
    · have ek : k = n := by omega
      subst ek
      go_wp2
      go_ret
      exact ⟨_, rfl, hI.out, hW⟩
end Go.Proofs.YtnebkdildnngeaaDoor
