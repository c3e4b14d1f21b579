/- The walk of the law's offers. -/
import Derived.Test.YtkaeiofolknoeabDoorDi
import Derived.Deep.AppendLies
import Derived.Laws.OwnMore
import Derived.Lib.SmallJoins
import Derived.Deep.RegionLaw
namespace Go.Proofs.YtkaeiofolknoeabDoor
open Go.RowKit Go.Sort

theorem nb0 (w : World) (o : Obj) : (w.alloc o).heap[w.heap.size]? = some o := by
  show (w.heap.push o)[w.heap.size]? = some o
  simp
theorem infoO : (Tryd.prog.info? 66).map (fun i => (i.zero, i.size, i.bytes)) = some (some (.agg #[.string ⟨#[]⟩, .int .i64 0, .string ⟨#[]⟩, .string ⟨#[]⟩, .slice none 0 0]), 5, 80) := by kernel_rfl
theorem infoP {t : TypeId} {z : Value} {s b : Nat} (h : (Tryd.prog.info? t).map (fun i => (i.zero, i.size, i.bytes)) = some (some z, s, b)) : ∃ i, Tryd.prog.info? t = some i ∧ i.zero = some z ∧ i.size = s ∧ i.bytes = b := by
  obtain ⟨i, hi, he⟩ := Option.map_eq_some_iff.1 h
  simp only [Prod.mk.injEq] at he
  exact ⟨i, hi, he.1, he.2.1, he.2.2⟩

/-- Five cells a round. -/
theorem five_len (f : Nat → List Value) (hf : ∀ i, (f i).length = 5) (n : Nat) : ((List.range n).flatMap f).length = n * 5 := by
  induction n with
  | zero => rfl
  | succ n ih => rw [List.range_succ, List.flatMap_append, List.length_append, ih]; simp [hf]; omega
theorem five_get (f : Nat → List Value) (hf : ∀ i, (f i).length = 5) (n i j : Nat) (hi : i < n) (hj : j < 5) : ((List.range n).flatMap f)[i * 5 + j]? = (f i)[j]? := by
  induction n with
  | zero => omega
  | succ n ih =>
    rw [List.range_succ, List.flatMap_append]
    by_cases h : i < n
    · rw [List.getElem?_append_left (by rw [five_len f hf]; omega)]; exact ih h
    · have e : i = n := by omega
      subst e
      rw [List.getElem?_append_right (by rw [five_len f hf]; omega), five_len f hf]
      simp

/-- The cells of an offer. -/
def oc (Q : List Pck) (g : Nat → Value) (i : Nat) : List Value := [.string ⟨(Q.getD i default).o.n.toArray⟩, .int .i64 (Q.getD i default).o.e, .string ⟨(Q.getD i default).o.u.toArray⟩, .string ⟨(Q.getD i default).o.r.toArray⟩, g i]
def ocs (Q : List Pck) (g : Nat → Value) (k : Nat) : List Value := (List.range k).flatMap (oc Q g)
theorem ocs_up (Q : List Pck) (g : Nat → Value) (k : Nat) : ocs Q g (k + 1) = ocs Q g k ++ oc Q g k := by
  unfold ocs; rw [List.range_succ, List.flatMap_append]; simp
theorem oc_at {Q : List Pck} {g : Nat → Value} {k : Nat} (hk : k < Q.length) : oc Q g k = [.string ⟨Q[k].o.n.toArray⟩, .int .i64 Q[k].o.e, .string ⟨Q[k].o.u.toArray⟩, .string ⟨Q[k].o.r.toArray⟩, g k] := by
  unfold oc; rw [show Q.getD k default = Q[k] from by simp [List.getD, hk]]

/-- What the offers hand back is those of the packages. -/
theorem os_of {W : World} {B : Nat} {S : Value} {Q : List Pck} {g : Nat → Value} (h : W.ownsRow B 66 5 S Q.length (ocs Q g Q.length)) (hg : ∀ i (hi : i < Q.length), Ts W (g i) Q[i].o.P) : Os' W S (Q.map (·.o)) := by
  by_cases h0 : Q = []
  · subst h0
    rcases h.2 with ⟨rfl, _⟩ | ⟨g', cap, cur, rfl, _⟩
    · exact ⟨Or.inl ⟨rfl, _, _, rfl⟩⟩
    · exact ⟨Or.inl ⟨rfl, _, _, rfl⟩⟩
  · have hp : 0 < Q.length := by cases Q with | nil => exact absurd rfl h0 | cons a b => simp
    obtain ⟨b, c, rfl⟩ := Go.Joins.ownsRow_form h hp
    have hl : (Q.map (·.o)).length = Q.length := by simp
    have cell : ∀ i (hi : i < Q.length) j (hj : j < 5), W.cell? ⟨b, 0 + i * 5 + j, none⟩ = (oc Q g i)[j]? := fun i hi j hj => by
      have h1 := h.cellAt (g := b) (i * 5 + j) (by omega)
      rw [Nat.zero_add]
      rw [h1]
      exact five_get (oc Q g) (fun _ => rfl) Q.length i j hi hj
    refine ⟨Or.inr ⟨b, 0, c, by rw [hl], ⟨(h.lt b rfl).2, fun i hi => ?_⟩⟩⟩
    rw [hl] at hi
    refine ⟨g i, ?_, ?_, ?_, ?_, ?_, ?_⟩
    · have := cell i hi 0 (by omega); rw [oc_at hi] at this; simpa using this
    · have := cell i hi 1 (by omega); rw [oc_at hi] at this; simpa using this
    · have := cell i hi 2 (by omega); rw [oc_at hi] at this; simpa using this
    · have := cell i hi 3 (by omega); rw [oc_at hi] at this; simpa using this
    · have := cell i hi 4 (by omega); rw [oc_at hi] at this; simpa using this
    · simpa using hg i hi

set_option maxHeartbeats 3200000 in
set_option maxRecDepth 100000 in
theorem offers_row (b o c : Nat) (Q : List Pck) (w : World) (h : Pl w b o Q) (hn : Q.length ≤ 1000) : Calls Tryd.prog 25 #[.slice (some ⟨b, o, none⟩) Q.length c] w fun e w' => ∃ S, e = .returned S ∧ Os' w' S (Q.map (·.o)) ∧ Below w.heap.size w w' := by
  have hg0 : ∀ i, i < Q.length → ∃ v : Value, w.cell? ⟨b, o + i * 13 + 9, none⟩ = some v ∧ Ts w v ((Q.getD i default).o.P) := fun i hi => by
    obtain ⟨vD, vA, vG, vB, vR, vP, vS, vL, vF, pc, pz⟩ := h.c i hi
    exact ⟨vP, pc.c9, by rw [show Q.getD i default = Q[i] from by simp [List.getD, hi]]; exact pz.P⟩
  obtain ⟨g, hg⟩ := Go.Deep.choose_lt hg0
  have HGG := Lib.hid hg
  have HF := Lib.hid h
  obtain ⟨i0, hi0, hz0, hz1, hz2⟩ := infoP infoO
  clear h hg0 hg
  go_enter Tryd.func25, Tryd.ntmps25
  go_wp2_with fail
  go_loopw [3, 4] (fun S i W => ∃ k : Nat, k ≤ Q.length ∧ i = .int .i64 k ∧ Hid (W.ownsRow w.heap.size 66 5 S k (ocs Q g k)) ∧ Below w.heap.size w W) (fun _ i _ => Q.length - (intOf i).toNat)
  case atStart => exact ⟨0, Nat.zero_le _, rfl, World.ownsRow_nil _ _ _ _, Below.refl _ _⟩
  case round =>
    obtain ⟨k, hk, rfl, HOW, hW⟩ := hrel
    by_cases hlt : k < Q.length
    · obtain ⟨vD, vA, vG, vB, vR, vP, vS, vL, vF, pc, pz⟩ := (HF.out.on hW).c k hlt
      have hgk := HGG.out k hlt
      have e9 : vP = g k := by
        have h1 := pc.c9
        rw [hW.cell (p := ⟨b, _, none⟩) HF.out.lt, hgk.1] at h1
        exact (Option.some.inj h1).symm
      subst e9
      obtain ⟨P1, P2, hP⟩ := pz.P.sl
      have pd := pc.on (Below.refl wr.heap.size wr).drew
      have p0 := pd.c0
      have p1 := pd.c1
      have p2 := pd.c2
      have p3 := pd.c3
      have p9 := pd.c9
      have HC := Lib.hid (oc_at (g := g) hlt)
      rw [hP] at p9 HC
      have hWd : Below w.heap.size w wr.drew := hW.drew
      have hWa : Below w.heap.size w (wr.drew.alloc (.cells #[.string ⟨Q[k].o.n.toArray⟩, .int .i64 Q[k].o.e, .string ⟨Q[k].o.u.toArray⟩, .string ⟨Q[k].o.r.toArray⟩, .slice P1 Q[k].o.P.length P2] 66)) := hWd.alloc hWd.size _
      have HD : Hid (wr.drew.ownsRow w.heap.size 66 5 u3 k (ocs Q g k)) := HOW
      have HA := Lib.hid (HD.out.alloc (.cells #[.string ⟨Q[k].o.n.toArray⟩, .int .i64 Q[k].o.e, .string ⟨Q[k].o.u.toArray⟩, .string ⟨Q[k].o.r.toArray⟩, .slice P1 Q[k].o.P.length P2] 66))
      clear pc pd pz hgk hP
      go_wp2_with fail
      go_region_law (first | (refine step_append_lies _ rfl _ _ 59 rfl w.heap.size 66 i0 _ 5 80 Tryd.underlying59 hi0 hz0 hz1 hz2 rfl (by decide) _ _ _ rfl HA.out ⟨wr.heap.size, 0, none⟩ 1 1 [.string ⟨Q[k].o.n.toArray⟩, .int .i64 Q[k].o.e, .string ⟨Q[k].o.u.toArray⟩, .string ⟨Q[k].o.r.toArray⟩, .slice P1 Q[k].o.P.length P2] rfl rfl (World.news_of_block (nb0 wr.drew _)) (by intro u hu; simp at hu; rcases hu with rfl | rfl | rfl | rfl | rfl <;> rfl) (by decide) (by unfold maxLen; omega) (by omega) hWa.size _ rfl ?_; intro g' cp w6 hown hgrow _ _))
      all_goals
        have HO6 : Hid (w6.ownsRow w.heap.size 66 5 (.slice (some ⟨g', 0, none⟩) (k + 1) cp) (k + 1) (ocs Q g (k + 1))) := by
          show w6.ownsRow _ _ _ _ _ _
          rw [ocs_up, HC.out]; exact hown
        have h6 : Below w.heap.size w w6 := hWa.grown hgrow hWa.size (fun j e => (HA.out.lt j e).1)
        clear hown hgrow HA HD HOW
        go_wp2_with fail
        exact ⟨⟨k + 1, hlt, by go_num, HO6, h6⟩, by simp [intOf]; omega⟩
    · have hke : k = Q.length := by omega
      subst hke
      go_wp2_with fail
      go_ret
      exact ⟨_, rfl, os_of HOW.out (fun i hi => by have := (HGG.out i hi).2; rw [show Q.getD i default = Q[i] from by simp [List.getD, hi]] at this; exact this.on hW), hW⟩
theorem offers_nil (A : Option Addr) (c : Nat) (w : World) : Calls Tryd.prog 25 #[.slice A 0 c] w fun e w' => e = .returned (.slice none 0 0) ∧ w' = w := by
  go_enter Tryd.func25, Tryd.ntmps25
  go_wp2
  refine wp_loop_rounds 1 ?_
  rw [rounds_succ]
  go_wp2
  go_ret
  exact ⟨rfl, rfl⟩
theorem offers_any (v : Value) (Q : List Pck) (w : World) (h : Ps w v Q) (hn : Q.length ≤ 1000) : Calls Tryd.prog 25 #[v] w fun e w' => ∃ S, e = .returned S ∧ Os' w' S (Q.map (·.o)) ∧ Below w.heap.size w w' := by
  rcases h.is with ⟨rfl, A, c, rfl⟩ | ⟨b, o, c, rfl, hf⟩
  · exact (offers_nil A c w).mono fun x w' ⟨h1, h2⟩ => ⟨_, h1, ⟨Or.inl ⟨rfl, _, _, rfl⟩⟩, by rw [h2]; exact Below.refl _ _⟩
  · exact offers_row b o c Q w hf hn
end Go.Proofs.YtkaeiofolknoeabDoor
