/- Who asks for whom, as edges: mathematics, and the walk of edges. -/
import Derived.Test.YthijccmiemlilaaGreatDoorA7
import Derived.Test.YthijccmiemlilaaGreatDoorGg
import Derived.Test.YthijccmiemlilaaGreatDoorB9
namespace Go.Proofs.YthijccmiemlilaaGreatDoor
open Go.RowKit Go.Sort

/-- Edges that are those of a table. -/
def Mm (L : List Ord.E) (R : Nat → Nat → Bool) : Prop := ∀ e : Ord.E, e ∈ L ↔ ∃ a b : Nat, e = ((a : Int), (b : Int)) ∧ R a b = true
theorem mm_nil : Mm [] (fun _ _ => false) := fun e => by simp
theorem mm_snoc {L : List Ord.E} {R R' : Nat → Nat → Bool} {x y : Nat} (h : Mm L R) (hR : ∀ a b, R' a b = (R a b || (decide (a = x) && decide (b = y)))) : Mm (L ++ [((x : Int), (y : Int))]) R' := fun e => by
  rw [List.mem_append, h e, List.mem_singleton]
  constructor
  · rintro (⟨a, b, rfl, hr⟩ | rfl)
    · exact ⟨a, b, rfl, by rw [hR, hr]; rfl⟩
    · exact ⟨x, y, rfl, by rw [hR]; simp⟩
  · rintro ⟨a, b, rfl, hr⟩
    rw [hR, Bool.or_eq_true] at hr
    rcases hr with hr | hr
    · exact .inl ⟨a, b, rfl, hr⟩
    · simp at hr
      exact .inr (by rw [hr.1, hr.2])
theorem mm_congr {L : List Ord.E} {R R' : Nat → Nat → Bool} (h : Mm L R) (hR : ∀ a b, R' a b = R a b) : Mm L R' := by
  have : R' = R := by funext a b; exact hR a b
  rw [this]; exact h
theorem mm_et {L : List Ord.E} {R : Nat → Nat → Bool} (h : Mm L R) : Ord.et L = R := by
  funext a b
  unfold Ord.et
  rw [Bool.eq_iff_iff, decide_eq_true_iff, h]
  constructor
  · rintro ⟨a', b', e, hr⟩
    simp only [Prod.mk.injEq, Int.natCast_inj] at e
    obtain ⟨rfl, rfl⟩ := e
    exact hr
  · intro hr
    exact ⟨a, b, rfl, hr⟩
theorem mm_app {L L' : List Ord.E} {R R' : Nat → Nat → Bool} (h : Mm L R) (h' : Mm L' R') : Mm (L ++ L') (fun a b => R a b || R' a b) := fun e => by
  rw [List.mem_append, h e, h' e]
  constructor
  · rintro (⟨a, b, rfl, hr⟩ | ⟨a, b, rfl, hr⟩)
    · exact ⟨a, b, rfl, by show (R a b || R' a b) = true; rw [hr]; rfl⟩
    · exact ⟨a, b, rfl, by show (R a b || R' a b) = true; rw [hr]; simp⟩
  · rintro ⟨a, b, rfl, hr⟩
    have hr : (R a b || R' a b) = true := hr
    rw [Bool.or_eq_true] at hr
    rcases hr with hr | hr
    · exact .inl ⟨a, b, rfl, hr⟩
    · exact .inr ⟨a, b, rfl, hr⟩
theorem mm_ro {L : List Ord.E} {R : Nat → Nat → Bool} {n : Nat} (h : Mm L R) (hn : n ≤ 40) (hR : ∀ a b, R a b = true → a < n ∧ b < n) : Ord.ro n L = .ok := by
  unfold Ord.ro Ord.roL
  rw [if_neg (by omega)]
  have : L.findIdx? (Ord.bade n) = none := by
    rw [List.findIdx?_eq_none_iff]
    intro e he
    obtain ⟨a, b, rfl, hr⟩ := (h e).1 he
    obtain ⟨h1, h2⟩ := hR a b hr
    unfold Ord.bade
    simp
    omega
  rw [this]
/-- The line of those edges. -/
theorem mm_li {L L' : List Ord.E} {R R' : Nat → Nat → Bool} {n : Nat} (h : Mm L R) (h' : Mm L' R') (hn : n ≤ 40) (hR : ∀ a b, R a b = true → a < n ∧ b < n) (hR' : ∀ a b, R' a b = true → a < n ∧ b < n) : Ord.ro2 n L L' = .ok ∧ Ord.li n L L' = Ord.lin (Ord.Om.cl n (fun a b => R a b || R' a b)) R' n := by
  have e : Ord.ro2 n L L' = .ok := by
    unfold Ord.ro2
    rw [mm_ro h hn hR]
    exact mm_ro h' hn hR'
  refine ⟨e, ?_⟩
  rw [Ord.li_ok e, mm_et (mm_app h h'), mm_et h']
/-- What edges has found. -/
def Rp (q : Nat → Nat → Bool) (n t k a b : Nat) : Bool := q a b && (decide (a < n) && (decide (b < t) || (decide (b = t) && decide (a < k))))
theorem rp_yes {q : Nat → Nat → Bool} {n t k : Nat} (hk : k < n) (h : q k t = true) (a b : Nat) : Rp q n t (k + 1) a b = (Rp q n t k a b || (decide (a = k) && decide (b = t))) := by
  unfold Rp
  by_cases e1 : a = k
  · by_cases e2 : b = t
    · subst e1 e2; simp [h, hk]
    · simp [e2]
  · have : decide (a < k + 1) = decide (a < k) := by rw [Bool.eq_iff_iff]; simp; omega
    rw [this]; simp [e1]
theorem rp_no {q : Nat → Nat → Bool} {n t k : Nat} (h : q k t = false) (a b : Nat) : Rp q n t (k + 1) a b = Rp q n t k a b := by
  unfold Rp
  by_cases e1 : a = k
  · by_cases e2 : b = t
    · subst e1 e2; simp [h]
    · simp [e2]
  · have : decide (a < k + 1) = decide (a < k) := by rw [Bool.eq_iff_iff]; simp; omega
    rw [this]
theorem rp_row (q : Nat → Nat → Bool) (n t a b : Nat) : Rp q n (t + 1) 0 a b = Rp q n t n a b := by
  unfold Rp
  rw [Bool.eq_iff_iff]
  simp
  omega
theorem rp_zero (q : Nat → Nat → Bool) (n a b : Nat) : Rp q n 0 0 a b = false := by unfold Rp; simp
/-- All of them. -/
def Rq (q : Nat → Nat → Bool) (n a b : Nat) : Bool := q a b && (decide (a < n) && decide (b < n))
theorem rp_all (q : Nat → Nat → Bool) (n a b : Nat) : Rq q n a b = Rp q n n 0 a b := by
  unfold Rp Rq
  simp
theorem rq_lt {q : Nat → Nat → Bool} {n a b : Nat} (h : Rq q n a b = true) : a < n ∧ b < n := by
  unfold Rq at h
  simp at h
  exact h.2
/-- Does the b-th of some ask for the a-th? -/
def qof (l : List Kn) (am : List Nat) (sl : Pck → List (List Tm)) (a b : Nat) : Bool := asq (l.getD (am.getD a 0) default).p.o (sl (l.getD (am.getD b 0) default).p)
theorem suf3 {F P : World → Option Addr → Nat → Prop} {G : Prop} (main : (∀ Z a b, F Z a b → P Z a b) → G) (tl : ∀ Z a b, F Z a b → P Z a b) : G := main tl
theorem f54 (args : Array Value) (w : World) : Sem.run Tryz.prog (callFunc 54 args) w = .ok (Next.enter 54 args) w := by simp [go_sem]
theorem f55 (args : Array Value) (w : World) : Sem.run Tryz.prog (callFunc 55 args) w = .ok (Next.enter 55 args) w := by simp [go_sem]
set_option maxHeartbeats 1600000 in
set_option maxRecDepth 100000 in
theorem clo54 (p : Pck) (vD vA vG vB vR vP vS vL vF : Value) (w : World) (hz : Pz w p vD vA vG vB vR vP vS vL vF) : Calls Tryz.prog 54 #[pkv p.o.n p.o.e p.o.u p.o.r vD vA vG vB vR vP vS vL vF] w fun x w' => ∃ A c, x = .returned (.slice A p.D.length c) ∧ As w' (.slice A p.D.length c) p.D ∧ Below w.heap.size w w' := by
  obtain ⟨d1, d2, rfl⟩ := hz.D.sl
  obtain ⟨a1, a2, rfl⟩ := hz.A.sl
  obtain ⟨g1, g2, rfl⟩ := hz.G.sl
  obtain ⟨b1, b2, rfl⟩ := hz.B.sl
  obtain ⟨r1, r2, rfl⟩ := hz.R.sl
  obtain ⟨p1, p2, rfl⟩ := hz.P.sl
  obtain ⟨s1, s2, rfl⟩ := hz.S.sl
  obtain ⟨l1, l2, rfl⟩ := hz.L.sl
  obtain ⟨f1, f2, rfl⟩ := hz.F.sl
  have HZ := Lib.hid hz.D
  clear hz
  go_enter Tryz.func54, Tryz.ntmps54
  go_wp2
  go_ret
  exact ⟨_, _, rfl, HZ.out.on (b1c _ _), b1c _ _⟩
set_option maxHeartbeats 1600000 in
set_option maxRecDepth 100000 in
theorem clo55 (p : Pck) (vD vA vG vB vR vP vS vL vF : Value) (w : World) (hz : Pz w p vD vA vG vB vR vP vS vL vF) : Calls Tryz.prog 55 #[pkv p.o.n p.o.e p.o.u p.o.r vD vA vG vB vR vP vS vL vF] w fun x w' => ∃ A c, x = .returned (.slice A p.A.length c) ∧ As w' (.slice A p.A.length c) p.A ∧ Below w.heap.size w w' := by
  obtain ⟨d1, d2, rfl⟩ := hz.D.sl
  obtain ⟨a1, a2, rfl⟩ := hz.A.sl
  obtain ⟨g1, g2, rfl⟩ := hz.G.sl
  obtain ⟨b1, b2, rfl⟩ := hz.B.sl
  obtain ⟨r1, r2, rfl⟩ := hz.R.sl
  obtain ⟨p1, p2, rfl⟩ := hz.P.sl
  obtain ⟨s1, s2, rfl⟩ := hz.S.sl
  obtain ⟨l1, l2, rfl⟩ := hz.L.sl
  obtain ⟨f1, f2, rfl⟩ := hz.F.sl
  have HZ := Lib.hid hz.A
  clear hz
  go_enter Tryz.func55, Tryz.ntmps55
  go_wp2
  go_ret
  exact ⟨_, _, rfl, HZ.out.on (b1c _ _), b1c _ _⟩
end Go.Proofs.YthijccmiemlilaaGreatDoor
namespace Go.Proofs.YthijccmiemlilaaGreatDoor
open Go.RowKit Go.Sort

theorem isn_at {W : World} {A : Option Addr} {n c : Nat} {l : List Nat} (h : Ord.Is W (.slice A n c) l) (k : Nat) (hk : k < l.length) : ∃ b o, A = some ⟨b, o, none⟩ ∧ W.cell? ⟨b, o + k, none⟩ = some (.int .i64 (l[k] : Nat)) ∧ n = l.length := by
  rcases h.is with ⟨rfl, _⟩ | ⟨b, o, c', e, _, hf⟩
  · simp at hk
  · cases e; exact ⟨b, o, rfl, hf.c k hk, rfl⟩
/-- What a closure hands out of a package. -/
def Hands (F : Nat) (sl : Pck → List (List Tm)) : Prop := ∀ (p : Pck) (vD vA vG vB vR vP vS vL vF : Value) (W : World), Pz W p vD vA vG vB vR vP vS vL vF → Calls Tryz.prog F #[pkv p.o.n p.o.e p.o.u p.o.r vD vA vG vB vR vP vS vL vF] W fun x w' => ∃ A c, x = .returned (.slice A (sl p).length c) ∧ As w' (.slice A (sl p).length c) (sl p) ∧ Below W.heap.size W w'
theorem ew_sl {W : World} {B : Nat} {v : Value} {L : List Ord.E} (h : Ord.Ew W B v L) : ∃ A c, v = .slice A L.length c ∧ (A = none → c = 0) := by
  rcases h.2 with ⟨rfl, h0⟩ | ⟨g, cap, cur, rfl, _⟩
  · exact ⟨none, 0, by rw [h0], fun _ => rfl⟩
  · exact ⟨_, _, rfl, fun h => by cases h⟩
set_option maxHeartbeats 6400000 in
set_option maxRecDepth 100000 in
theorem edges53 (F : Nat) (hF : ∀ (args : Array Value) (w : World), Sem.run Tryz.prog (callFunc F args) w = .ok (Next.enter F args) w) (sl : Pck → List (List Tm)) (hc : Hands F sl) (hsl : ∀ p, Sok p → (sl p).length ≤ 40 ∧ ∀ x ∈ sl p, x.length ≤ 40 ∧ ∀ t ∈ x, Sh t) (A : Option Addr) (c : Nat) (l : List Kn) (am : List Nat) (Am : Option Addr) (cm : Nat) (w : World) (hl : Ks w (.slice A l.length c) l) (_hn : l.length ≤ 100) (ha : Ord.Is w (.slice Am am.length cm) am) (hal : am.length ≤ 40) (ham : ∀ i ∈ am, i < l.length) (hSo : ∀ k ∈ l, Sok k.p) :
    Calls Tryz.prog 53 #[.slice A l.length c, .slice Am am.length cm, .func (Fn.func F) #[] #[]] w fun e w' => ∃ S L, e = .returned S ∧ Ord.Ew w' w.heap.size S L ∧ Mm L (Rq (qof l am sl) am.length) ∧ L.length ≤ 1600 ∧ Below w.heap.size w w' := by
  have HL := Lib.hid hl
  have HA := Lib.hid ha
  have HSo := Lib.hid hSo
  have HAM := Lib.hid ham
  have HC := Lib.hid hc
  have HSL := Lib.hid hsl
  clear hl ha hSo ham hc hsl
  go_enter Tryz.func53, Tryz.ntmps53
  go_wp2_with fail
  go_loopw [7, 14] (fun S i W => ∃ (t : Nat) (L : List Ord.E), t ≤ am.length ∧ i = .int .i64 t ∧ Hid (Ord.Ew W w.heap.size S L) ∧ Hid (Below w.heap.size w W) ∧ Hid (Mm L (Rp (qof l am sl) am.length t 0)) ∧ L.length ≤ t * 40) (fun _ i _ => am.length - (intOf i).toNat)
  case atStart => exact ⟨0, [], Nat.zero_le _, rfl, World.ownsRow_nil _ _ _ _, Below.refl _ _, mm_congr mm_nil (fun a b => rp_zero _ _ a b), Nat.zero_le _⟩
  case round =>
    obtain ⟨t, L, ht, rfl, HE, HB, HM, hLl⟩ := hrel
    by_cases hlt : t < am.length
    · obtain ⟨b8, o8, rfl, hc8, _⟩ := isn_at (HA.out.on HB.out) t hlt
      have hil : am[t] < l.length := HAM.out _ (List.getElem_mem hlt)
      have HT : Hid (l.getD (am.getD t 0) default = l[am[t]]) := by show _ = _; simp [List.getD, hlt, hil]
      generalize am[t] = ti at *
      obtain ⟨b, o, rfl, vW, vT, vD, vA, vG, vB, vR, vP, vS, vL, vF, kc, kz⟩ := HL.out.at' ti hil
      obtain ⟨⟨-, -, -, -⟩, ⟨-, -, -, -⟩, ⟨c1, c2, c3, rfl⟩, ⟨d1, d2, d3, rfl⟩, ⟨e1, e2, e3, rfl⟩, ⟨f1, f2, f3, rfl⟩, ⟨g1, g2, g3, rfl⟩, ⟨i1, i2, i3, rfl⟩, ⟨j1, j2, j3, rfl⟩, ⟨l1, l2, l3, rfl⟩, ⟨m1, m2, m3, rfl⟩⟩ := kz.k11
      have hblw : b < w.heap.size := block_lt_of_cell kc.c0
      have hra := kc.pack
      have HZ := Lib.hid kz.z
      have HSk := Lib.hid (HSo.out _ (List.getElem_mem hil))
      generalize l[ti] = x at *
      clear kc kz
      go_wp2_with fail
      go_loopw [7, 21] (fun S i W => ∃ (k : Nat) (L : List Ord.E), k ≤ am.length ∧ i = .int .i64 k ∧ Hid (Ord.Ew W w.heap.size S L) ∧ Hid (Below w.heap.size w W) ∧ Hid (Mm L (Rp (qof l am sl) am.length t k)) ∧ L.length ≤ t * 40 + k) (fun _ i _ => am.length - (intOf i).toNat)
      case atStart => exact ⟨0, L, Nat.zero_le _, rfl, HE, HB, HM, hLl⟩
      case round =>
        clear HE HB HM hLl hc8
        obtain ⟨k, L, hk, rfl, HE, HB, HM, hLl⟩ := hrel
        by_cases hkt : k < am.length
        · obtain ⟨b9, o9, hA9, hc9, _⟩ := isn_at (HA.out.on HB.out) k hkt
          cases hA9
          have hjl : am[k] < l.length := HAM.out _ (List.getElem_mem hkt)
          have HK : Hid (l.getD (am.getD k 0) default = l[am[k]]) := by show _ = _; simp [List.getD, hkt, hjl]
          generalize am[k] = kj at *
          obtain ⟨b', o', hbo, uW, uT, uD, uA, uG, uB, uR, uP, uS, uL, uF, kc', kz'⟩ := HL.out.at' kj hjl
          cases hbo
          obtain ⟨⟨-, -, -, -⟩, ⟨-, -, -, -⟩, ⟨c_1, c_2, c_3, rfl⟩, ⟨d_1, d_2, d_3, rfl⟩, ⟨e_1, e_2, e_3, rfl⟩, ⟨f_1, f_2, f_3, rfl⟩, ⟨g_1, g_2, g_3, rfl⟩, ⟨i_1, i_2, i_3, rfl⟩, ⟨j_1, j_2, j_3, rfl⟩, ⟨l_1, l_2, l_3, rfl⟩, ⟨m_1, m_2, m_3, rfl⟩⟩ := kz'.k11
          have hra' := kc'.pack
          have HZ' := Lib.hid kz'.z
          have HSk' := Lib.hid (HSo.out _ (List.getElem_mem hjl))
          generalize l[kj] = x' at *
          clear kc' kz'
          have HQ : Hid (qof l am sl k t = asq x'.p.o (sl x.p)) := by show _ = _; unfold qof; rw [HK.out, HT.out]
          have hbl : b < wr.heap.size := Nat.lt_of_lt_of_le hblw HB.out.size
          have rA : wr.rangeAt b (o + ti * 20 + 7) [.string ⟨x.p.o.n.toArray⟩, .int .i64 x.p.o.e, .string ⟨x.p.o.u.toArray⟩, .string ⟨x.p.o.r.toArray⟩, .slice c1 c2 c3, .slice d1 d2 d3, .slice e1 e2 e3, .slice f1 f2 f3, .slice g1 g2 g3, .slice i1 i2 i3, .slice j1 j2 j3, .slice l1 l2 l3, .slice m1 m2 m3] := fun j v hv => by rw [HB.out.cell (p := ⟨b, o + ti * 20 + 7 + j, none⟩) hblw]; exact hra j v hv
          have rB : wr.rangeAt b (o + kj * 20 + 7) [.string ⟨x'.p.o.n.toArray⟩, .int .i64 x'.p.o.e, .string ⟨x'.p.o.u.toArray⟩, .string ⟨x'.p.o.r.toArray⟩, .slice c_1 c_2 c_3, .slice d_1 d_2 d_3, .slice e_1 e_2 e_3, .slice f_1 f_2 f_3, .slice g_1 g_2 g_3, .slice i_1 i_2 i_3, .slice j_1 j_2 j_3, .slice l_1 l_2 l_3, .slice m_1 m_2 m_3] := fun j v hv => by rw [HB.out.cell (p := ⟨b, o + kj * 20 + 7 + j, none⟩) hblw]; exact hra' j v hv
          have cF := Lib.hid (fun W (h : Below wr.heap.size wr W) => HC.out x.p (.slice c1 c2 c3) (.slice d1 d2 d3) (.slice e1 e2 e3) (.slice f1 f2 f3) (.slice g1 g2 g3) (.slice i1 i2 i3) (.slice j1 j2 j3) (.slice l1 l2 l3) (.slice m1 m2 m3) W (HZ.out.on (bon HB.out h)))
          have cO := Lib.hid (fun W (h : Below wr.heap.size wr W) => offer_any x'.p (.slice c_1 c_2 c_3) (.slice d_1 d_2 d_3) (.slice e_1 e_2 e_3) (.slice f_1 f_2 f_3) (.slice g_1 g_2 g_3) (.slice i_1 i_2 i_3) (.slice j_1 j_2 j_3) (.slice l_1 l_2 l_3) (.slice m_1 m_2 m_3) W (HZ'.out.on (bon HB.out h)))
          have cQ := Lib.hid (fun A9 c9 W (h : Below wr.heap.size wr W) (hA : As W (.slice A9 (sl x.p).length c9) (sl x.p)) => asked_any x'.p.o (.slice i_1 i_2 i_3) (.slice A9 (sl x.p).length c9) (sl x.p) W ((HZ'.out.on (bon HB.out h)).P) hA (by have := (HSL.out _ HSk.out).1; omega) HSk'.out.oh (HSL.out _ HSk.out).2)
          obtain ⟨y, hy⟩ : ∃ y, asq x'.p.o (sl x.p) = y := ⟨_, rfl⟩
          rw [hy] at cQ HQ
          clear hy
          have hS : Below wr.heap.size wr wr.drew := (Below.refl _ _).drew
          go_upto_region 8 with fail
          apply suf3 (F := fun V A9 c9 => Below wr.heap.size wr V)
          · intro tail
            refine wp_region_held (S := fun V => Below wr.heap.size wr V) (by kernel_rfl) ?_
            refine take_d (some 26) (i := 0) (v := .func (Fn.func F) #[] #[]) rfl rfl (by kernel_rfl) (by kernel_rfl) (by kernel_rfl) (fun _ _ _ h => h) (.inl ⟨by kernel_rfl, fun w' hw => by simp [go_sem]⟩) hS ?_
            refine take_d (some 27) (i := 1) (v := .slice (some ⟨b, o, none⟩) l.length c) rfl rfl (by kernel_rfl) (by kernel_rfl) (by kernel_rfl) (fun _ _ _ h => h) (.inl ⟨by kernel_rfl, fun w' hw => by simp [go_sem]⟩) hS ?_
            refine take_d (some 28) (i := 2) (v := .int .i64 ti) rfl rfl (by kernel_rfl) (by kernel_rfl) (by kernel_rfl) (fun _ _ _ h => h) (.inl ⟨by kernel_rfl, fun w' hw => by simp [go_sem]⟩) hS ?_
            refine take_d (some 29) (i := 3) (v := .pointer (some ⟨b, o + ti * 20, none⟩)) rfl rfl (by kernel_rfl) (by kernel_rfl) (by kernel_rfl) (fun _ _ _ h => h) (.inl ⟨by kernel_rfl, fun w' hw => by simp [go_sem, hil]⟩) hS ?_
            refine take_d (some 30) (i := 4) (v := .pointer (some ⟨b, o + ti * 20 + 7, none⟩)) rfl rfl (by kernel_rfl) (by kernel_rfl) (by kernel_rfl) (fun _ _ _ h => h) (.inl ⟨by kernel_rfl, fun w' hw => by simp [go_sem]⟩) hS ?_
            simp only [Act.put, List.setIfInBounds_toArray, List.set_cons_succ, List.set_cons_zero]
            refine take_d (some 31) (i := 5) rfl rfl (by kernel_rfl) (by kernel_rfl) (by kernel_rfl) (fun _ _ _ h => h) (yieldsIf_load_mid (by kernel_rfl) 30 _ rfl b (o + ti * 20 + 7) rfl _ _ (fun V hV j v hv => by rw [hV.cell (p := ⟨b, o + ti * 20 + 7 + j, none⟩) hbl]; exact rA j v hv) Tryz.underlying30 rfl (by kernel_rfl)) hS ?_
            refine take_d (some 33) (i := 7) (v := .slice (some ⟨b, o, none⟩) l.length c) rfl rfl (by kernel_rfl) (by kernel_rfl) (by kernel_rfl) (fun _ _ _ h => h) (.inl ⟨by kernel_rfl, fun w' hw => by simp [go_sem]⟩) hS ?_
            refine take_d (some 34) (i := 8) (v := .int .i64 kj) rfl rfl (by kernel_rfl) (by kernel_rfl) (by kernel_rfl) (fun _ _ _ h => h) (.inl ⟨by kernel_rfl, fun w' hw => by simp [go_sem]⟩) hS ?_
            refine take_d (some 35) (i := 9) (v := .pointer (some ⟨b, o + kj * 20, none⟩)) rfl rfl (by kernel_rfl) (by kernel_rfl) (by kernel_rfl) (fun _ _ _ h => h) (.inl ⟨by kernel_rfl, fun w' hw => by simp [go_sem, hjl]⟩) hS ?_
            simp only [Act.put, List.setIfInBounds_toArray, List.set_cons_succ, List.set_cons_zero]
            refine take_d (some 36) (i := 10) (v := .pointer (some ⟨b, o + kj * 20 + 7, none⟩)) rfl rfl (by kernel_rfl) (by kernel_rfl) (by kernel_rfl) (fun _ _ _ h => h) (.inl ⟨by kernel_rfl, fun w' hw => by simp [go_sem]⟩) hS ?_
            simp only [Act.put, List.setIfInBounds_toArray, List.set_cons_succ, List.set_cons_zero]
            refine take_d (some 37) (i := 11) rfl rfl (by kernel_rfl) (by kernel_rfl) (by kernel_rfl) (fun _ _ _ h => h) (yieldsIf_load_mid (by kernel_rfl) 30 _ rfl b (o + kj * 20 + 7) rfl _ _ (fun V hV j v hv => by rw [hV.cell (p := ⟨b, o + kj * 20 + 7 + j, none⟩) hbl]; exact rB j v hv) Tryz.underlying30 rfl (by kernel_rfl)) hS ?_
            simp only [Act.put, List.setIfInBounds_toArray, List.set_cons_succ, List.set_cons_zero]
            refine wpAnyH_all (rs := [6]) (by kernel_rfl) (by simp) fun i hi => ?_
            obtain rfl : i = 6 := by simpa using hi
            · refine wpOp_want rfl (by kernel_rfl) ?_
              unfold Oper.wp
              simp [go_sem, hF]
              refine (cF.out wr.drew hS).mono ?_
              rintro z V1 ⟨A9, c9, rfl, hA1, k1⟩
              have hS1 := bon hS k1
              refine ⟨hS1, ?_⟩
              refine wpAnyH_all (rs := [12]) (by kernel_rfl) (by simp) fun i hi => ?_
              obtain rfl : i = 12 := by simpa using hi
              refine wpOp_want rfl (by kernel_rfl) ?_
              unfold Oper.wp
              simp [go_sem]
              refine (cO.out V1 hS1).mono ?_
              rintro z V2 ⟨rfl, k2⟩
              have hS2 := bon hS1 k2
              refine ⟨hS2, ?_⟩
              refine wpAnyH_all (rs := [13]) (by kernel_rfl) (by simp) fun i hi => ?_
              obtain rfl : i = 13 := by simpa using hi
              refine wpOp_want rfl (by kernel_rfl) ?_
              unfold Oper.wp
              simp [go_sem]
              refine (cQ.out A9 c9 V2 hS2 (hA1.on k2)).mono ?_
              rintro z V3 ⟨rfl, k3⟩
              have hS3 := bon hS2 k3
              refine ⟨hS3, ?_⟩
              refine wpAnyH_done (by kernel_rfl) ?_ _
              try simp only [Act.put, List.getElem_toArray, List.getElem_cons_succ, List.getElem_cons_zero, List.setIfInBounds_toArray, List.set_cons_succ, List.set_cons_zero]
              exact tail V3 A9 c9 hS3
          · intro V A9 c9 hV
            have HE2 := Lib.hid (Ord.own_on HE.out hV)
            have HB2 := Lib.hid (bon HB.out hV)
            clear HE HB cF cO cQ rA rB hV hS hc9
            cases y with
            | false =>
              have HM2 : Hid (Mm L (Rp (qof l am sl) am.length t (k + 1))) := mm_congr HM.out (fun a b => rp_no HQ.out a b)
              clear HM
              go_wp2_with fail
              exact ⟨⟨k + 1, L, hkt, by go_num, HE2, HB2, HM2, by omega⟩, by simp [intOf]; omega⟩
            | true =>
              have HM2 : Hid (Mm (L ++ [((k : Int), (t : Int))]) (Rp (qof l am sl) am.length t (k + 1))) := mm_snoc HM.out (fun a b => rp_yes hkt HQ.out a b)
              have hE2 := HE2.out
              have hz2 := HB2.out.size
              have hLb : L.length ≤ 1000000 := by have : t * 40 ≤ 40 * 40 := Nat.mul_le_mul_right _ (by omega); omega
              clear HM
              go_wp2_with (first | (at_builtin; refine Ord.wpList_apE ((k : Int), (t : Int)) hE2 hLb hz2 rfl _ _ rfl rfl _ rfl rfl ?_; intro g9 d9 w9 hI9 hB9; have HI9 := Lib.hid hI9; have HB9 := Lib.hid (HB2.out.trans (hB9 _ (Nat.le_refl _))); clear hI9 hB9) | fail)
              exact ⟨⟨k + 1, L ++ [((k : Int), (t : Int))], hkt, by go_num, by simpa using HI9, HB9, HM2, by simp; omega⟩, by simp [intOf]; omega⟩
        · have hke : k = am.length := by omega
          subst hke
          have HM2 : Hid (Mm L (Rp (qof l am sl) am.length (t + 1) 0)) := mm_congr HM.out (fun a b => rp_row _ _ _ a b)
          clear HM
          go_wp2_with fail
          exact ⟨⟨t + 1, L, hlt, by go_num, HE, HB, HM2, by omega⟩, by simp [intOf]; omega⟩
    · have hte : t = am.length := by omega
      subst hte
      have HM2 : Hid (Mm L (Rq (qof l am sl) am.length)) := mm_congr HM.out (fun a b => rp_all _ _ a b)
      clear HM
      go_wp2_with fail
      go_ret
      exact ⟨_, L, rfl, HE.out, HM2.out, by have : am.length * 40 ≤ 40 * 40 := Nat.mul_le_mul_right _ (by omega); omega, HB.out⟩
end Go.Proofs.YthijccmiemlilaaGreatDoor
