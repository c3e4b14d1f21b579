/- The switch of the law DiskPlays' round: one act at both disks. -/
import Derived.Test.YtjllnhdampjieaaDoorPd
namespace Go.Proofs.YtjllnhdampjieaaDoor
open Go.RowKit Go.Sort Go.Maps

def blockAt (n : Nat) : Code → Option Code
  | .block m c => if m = n then some (.block m c) else blockAt n c
  | .loop c => blockAt n c
  | .seq a b => match blockAt n a with
    | some c => some c
    | none => blockAt n b
  | .scope c => blockAt n c
  | .cond _ a b => match blockAt n a with
    | some c => some c
    | none => blockAt n b
  | _ => none
noncomputable def swc : Code := (Tryd.f3.body.bind (blockAt 2)).getD .skip
set_option maxHeartbeats 40000000 in
set_option maxRecDepth 1000000 in
theorem plays_first (w : World) (b c k bx : Nat) (t n : Int) (f o : List UInt8) (W1 : World) (HE : Hid (ErrT w)) (HJ1 : Hid (J w b c k W1)) (HX1 : Hid (W1.heap[bx]? = some (aco ⟨t, n, f, o⟩))) (hf : f.length ≤ 100) (ho : o.length ≤ 200) (hxn : n ≤ 9223372036854775807) (hk60 : k < 60)
    (Jm K' : Act → World → Prop) (Q0 : Exit → Act → World → Prop) (hQ0 : ∀ ch (a : Act) d v w, Q0 (.panic ch) (a.put d v) w → Q0 (.panic ch) a w) (s0 s1 s2 s5 s7 s8 s9 s10 s11 s12 s13 s14 s15 s16 s17 s18 s19 s20 s21 s22 s23 s24 s25 s26 s27 s28 s29 s30 s31 s32 s33 s34 s35 s36 s37 s38 s39 s41 s42 s43 s44 s45 s46 s47 s48 s49 s50 s51 s52 s53 s54 s55 s56 s57 s58 s59 s60 s61 s62 s63 s64 s65 s66 s67 s68 s69 s70 s71 s72 s73 s74 s75 s76 s77 s78 s79 s80 s81 s82 s83 s84 s85 s86 s87 s88 s89 s90 s91 s92 s93 s94 s95 s96 s97 s98 s99 s100 s101 s102 s103 s104 s105 s106 s107 s108 s109 s110 s111 s112 s113 s114 s115 s116 s117 s118 s119 s120 s121 s122 s123 s124 s125 s126 s127 s128 s129 s130 s131 s132 s133 s134 s135 s136 s137 s138 s139 s140 s141 s142 s143 s144 s145 s146 s147 s148 s149 s150 s151 s152 s153 s154 s155 s156 s157 s158 s159 s160 s161 s162 s163 s164 s165 s166 s167 s168 s169 s170 s171 s172 s173 s174 s175 s176 s177 s178 s179 s180 s181 s182 s183 s184 s185 s186 s187 s188 s189 s190 s191 s192 s193 : Value)
    (hJm : ∀ a' w', (∃ u2 u19 u20 u21 u22 u23 u24 u25 u26 u27 u28 u29 u30 u31 u32 u33 u34 u35 u36 u37 u38 u39 u40 u41 u42 u43 u44 u45 u46 u47 u48 u49 u50 u51 u52 u53 u54 u55 u56 u57 u58 u59 u60 u61 u62 u63 u64 u65 u66 u67 u68 u69 u70 u71 u72 u73 u74 u75 u76 u77 u78 u79 u80 u81 u82 u83 u84 u85 u86 u87 u88 u89 u90 u91 u92 u93 u94 u95 u96 u97 u98 u99 u100 u101 u102 u103 u104 u105 u106 u107 u108 u109 u110 u111 u112 u113 u114 u115 u116 u117 u118 u119 u120 u121 u122 u123 u124 u125 u126 u127 u128 u129 u130 u131 u132 u133 u134 u135 u136 u137 u138 u139 u140 u141 u142 u143 u144 u145 u146 u147 u148 u149 u150 u151 u152 u153 u154 u155 u156 u157 u158 u159 u160 u161 u162 u163 u164 u165 u166 u167 u168 u169 u170 u171 u172 u173 u174 u175 u176 u177 u178 u179 u180 u181 u182 u183 u184 u185 u186 u187 u188 u189 u190 u191 u192 u193 : Value, Cu w b c (k + 1) bx ⟨t, n, f, o⟩ w' ∧ a' = ⟨#[s0, s1, u2, .pointer (some ⟨b, 0, none⟩), .pointer (some ⟨c, 0, none⟩), s5, .pointer (some ⟨bx, 0, none⟩), s7, s8, s9, s10, s11, s12, s13, s14, s15, s16, s17, s18, u19, u20, u21, u22, u23, u24, u25, u26, u27, u28, u29, u30, u31, u32, u33, u34, u35, u36, u37, u38, u39, u40, u41, u42, u43, u44, u45, u46, u47, u48, u49, u50, u51, u52, u53, u54, u55, u56, u57, u58, u59, u60, u61, u62, u63, u64, u65, u66, u67, u68, u69, u70, u71, u72, u73, u74, u75, u76, u77, u78, u79, u80, u81, u82, u83, u84, u85, u86, u87, u88, u89, u90, u91, u92, u93, u94, u95, u96, u97, u98, u99, u100, u101, u102, u103, u104, u105, u106, u107, u108, u109, u110, u111, u112, u113, u114, u115, u116, u117, u118, u119, u120, u121, u122, u123, u124, u125, u126, u127, u128, u129, u130, u131, u132, u133, u134, u135, u136, u137, u138, u139, u140, u141, u142, u143, u144, u145, u146, u147, u148, u149, u150, u151, u152, u153, u154, u155, u156, u157, u158, u159, u160, u161, u162, u163, u164, u165, u166, u167, u168, u169, u170, u171, u172, u173, u174, u175, u176, u177, u178, u179, u180, u181, u182, u183, u184, u185, u186, u187, u188, u189, u190, u191, u192, u193], []⟩) → Jm a' w') (hKm : ∀ a' w', Met Jm a' w' → K' a' w') :
    Code.wp Tryd.prog swc (Exit.then K' Q0) ⟨#[s0, s1, s2, .pointer (some ⟨b, 0, none⟩), .pointer (some ⟨c, 0, none⟩), s5, .pointer (some ⟨bx, 0, none⟩), s7, s8, s9, s10, s11, s12, s13, s14, s15, s16, s17, s18, s19, s20, s21, s22, s23, s24, s25, s26, s27, s28, s29, s30, s31, s32, s33, s34, s35, s36, s37, s38, s39, .int .i64 t, s41, s42, s43, s44, s45, s46, s47, s48, s49, s50, s51, s52, s53, s54, s55, s56, s57, s58, s59, s60, s61, s62, s63, s64, s65, s66, s67, s68, s69, s70, s71, s72, s73, s74, s75, s76, s77, s78, s79, s80, s81, s82, s83, s84, s85, s86, s87, s88, s89, s90, s91, s92, s93, s94, s95, s96, s97, s98, s99, s100, s101, s102, s103, s104, s105, s106, s107, s108, s109, s110, s111, s112, s113, s114, s115, s116, s117, s118, s119, s120, s121, s122, s123, s124, s125, s126, s127, s128, s129, s130, s131, s132, s133, s134, s135, s136, s137, s138, s139, s140, s141, s142, s143, s144, s145, s146, s147, s148, s149, s150, s151, s152, s153, s154, s155, s156, s157, s158, s159, s160, s161, s162, s163, s164, s165, s166, s167, s168, s169, s170, s171, s172, s173, s174, s175, s176, s177, s178, s179, s180, s181, s182, s183, s184, s185, s186, s187, s188, s189, s190, s191, s192, s193], []⟩ W1 := by
  conv => arg 2; whnf
  obtain ⟨mb, m, K, L, e, cc, bd, r, lf, bt, hJX⟩ := HJ1.out.is
  have hJD : JX w b c k mb m K L e cc bd r lf bt W1.drew := hJX.up ((Below.refl W1.heap.size W1).drew)
  by_cases h0 : t = 0
  · subst h0
    have cA := act_write hJD hk60 f o hf ho
    go_wp2_with fail
    have lc1 : Xs bx ⟨0, n, f, o⟩ W1.drew := ⟨HX1.out⟩
    refine wp_region_held (S := Xs bx ⟨0, n, f, o⟩) (by kernel_rfl) ?_
    refine wpAnyH_take (i := 0) (v := .pointer (some ⟨bx, 2, none⟩)) rfl (by as_aux_lemma => kernel_rfl) (by as_aux_lemma => kernel_rfl) (by as_aux_lemma => kernel_rfl) (fun _ _ _ h => hQ0 _ _ _ _ _ h) (.inl ⟨rfl, fun w' _ => by simp [go_sem]⟩) lc1 ?_
    refine wpAnyH_take (i := 1) (v := .string ⟨f.toArray⟩) rfl (by as_aux_lemma => kernel_rfl) (by as_aux_lemma => kernel_rfl) (by as_aux_lemma => kernel_rfl) (fun _ _ _ h => hQ0 _ _ _ _ _ h) (.inl ⟨rfl, fun w' hw => by have h1 := hw.c.2.2.1; simp [go_sem, h1]⟩) lc1 ?_
    refine wpAnyH_take (i := 2) (v := .pointer (some ⟨bx, 3, none⟩)) rfl (by as_aux_lemma => kernel_rfl) (by as_aux_lemma => kernel_rfl) (by as_aux_lemma => kernel_rfl) (fun _ _ _ h => hQ0 _ _ _ _ _ h) (.inl ⟨rfl, fun w' _ => by simp [go_sem]⟩) lc1 ?_
    refine wpAnyH_take (i := 3) (v := .string ⟨o.toArray⟩) rfl (by as_aux_lemma => kernel_rfl) (by as_aux_lemma => kernel_rfl) (by as_aux_lemma => kernel_rfl) (fun _ _ _ h => hQ0 _ _ _ _ _ h) (.inl ⟨rfl, fun w' hw => by have h1 := hw.c.2.2.2; simp [go_sem, h1]⟩) lc1 ?_
    refine wpAnyH_take (i := 5) (v := .pointer (some ⟨c, 0, none⟩)) rfl (by as_aux_lemma => kernel_rfl) (by as_aux_lemma => kernel_rfl) (by as_aux_lemma => kernel_rfl) (fun _ _ _ h => hQ0 _ _ _ _ _ h) (.inl ⟨rfl, fun w' _ => by simp [go_sem]⟩) lc1 ?_
    refine wpAnyH_take (i := 6) (v := .pointer (some ⟨bx, 2, none⟩)) rfl (by as_aux_lemma => kernel_rfl) (by as_aux_lemma => kernel_rfl) (by as_aux_lemma => kernel_rfl) (fun _ _ _ h => hQ0 _ _ _ _ _ h) (.inl ⟨rfl, fun w' _ => by simp [go_sem]⟩) lc1 ?_
    refine wpAnyH_take (i := 7) (v := .string ⟨f.toArray⟩) rfl (by as_aux_lemma => kernel_rfl) (by as_aux_lemma => kernel_rfl) (by as_aux_lemma => kernel_rfl) (fun _ _ _ h => hQ0 _ _ _ _ _ h) (.inl ⟨rfl, fun w' hw => by have h1 := hw.c.2.2.1; simp [go_sem, h1]⟩) lc1 ?_
    refine wpAnyH_take (i := 8) (v := .pointer (some ⟨bx, 3, none⟩)) rfl (by as_aux_lemma => kernel_rfl) (by as_aux_lemma => kernel_rfl) (by as_aux_lemma => kernel_rfl) (fun _ _ _ h => hQ0 _ _ _ _ _ h) (.inl ⟨rfl, fun w' _ => by simp [go_sem]⟩) lc1 ?_
    refine wpAnyH_take (i := 9) (v := .string ⟨o.toArray⟩) rfl (by as_aux_lemma => kernel_rfl) (by as_aux_lemma => kernel_rfl) (by as_aux_lemma => kernel_rfl) (fun _ _ _ h => hQ0 _ _ _ _ _ h) (.inl ⟨rfl, fun w' hw => by have h1 := hw.c.2.2.2; simp [go_sem, h1]⟩) lc1 ?_
    refine wpAnyH_all (rs := [4]) (by as_aux_lemma => kernel_rfl) (by simp) fun j hj => ?_
    obtain rfl : j = 4 := by simpa using hj
    refine wpOp_go rfl rfl ?_
    unfold Oper.wp
    simp [go_sem]
    refine cA.mono ?_
    rintro y W2 ⟨z, rfl, hF2, cB⟩
    have lc2 : Xs bx ⟨0, n, f, o⟩ W2 := ⟨hF2 _ _ HX1.out⟩
    refine ⟨lc2, ?_⟩
    refine wpAnyH_all (rs := [10]) (by as_aux_lemma => kernel_rfl) (by simp) fun j hj => ?_
    obtain rfl : j = 10 := by simpa using hj
    refine wpOp_go rfl rfl ?_
    unfold Oper.wp
    simp [go_sem]
    refine cB.mono ?_
    rintro y W3 ⟨rfl, hF3, hJ3⟩
    have lc3 : Xs bx ⟨0, n, f, o⟩ W3 := ⟨hF3 _ _ lc2.x⟩
    refine ⟨lc3, ?_⟩
    have cC := bare_evv z W3 (HE.out.on hJ3.bl)
    refine wpAnyH_all (rs := [11]) (by as_aux_lemma => kernel_rfl) (by simp) fun j hj => ?_
    obtain rfl : j = 11 := by simpa using hj
    refine wpOp_go rfl rfl ?_
    unfold Oper.wp
    simp [go_sem]
    refine cC.mono ?_
    rintro y W4 ⟨rfl, hb4⟩
    have hJ4 := hJ3.up hb4
    have lc4 : Xs bx ⟨0, n, f, o⟩ W4 := ⟨F29.below hb4 _ _ lc3.x⟩
    refine ⟨lc4, ?_⟩
    refine wpAnyH_all (rs := [12]) (by as_aux_lemma => kernel_rfl) (by simp) fun j hj => ?_
    obtain rfl : j = 12 := by simpa using hj
    refine wpOp_go rfl rfl ?_
    unfold Oper.wp
    simp [go_sem]
    refine ⟨lc4, wpAnyH_done (by as_aux_lemma => kernel_rfl) ?_ _⟩
    go_wp2_with fail
    go_meet
    case rel => exact ⟨hJ4, lc4.x⟩
  by_cases h1 : t = 1
  · subst h1
    have cA := act_sync hJD hk60 f hf
    go_wp2_with fail
    have lc1 : Xs bx ⟨1, n, f, o⟩ W1.drew := ⟨HX1.out⟩
    refine wp_region_held (S := Xs bx ⟨1, n, f, o⟩) (by kernel_rfl) ?_
    refine wpAnyH_take (i := 0) (v := .pointer (some ⟨bx, 2, none⟩)) rfl (by as_aux_lemma => kernel_rfl) (by as_aux_lemma => kernel_rfl) (by as_aux_lemma => kernel_rfl) (fun _ _ _ h => hQ0 _ _ _ _ _ h) (.inl ⟨rfl, fun w' _ => by simp [go_sem]⟩) lc1 ?_
    refine wpAnyH_take (i := 1) (v := .string ⟨f.toArray⟩) rfl (by as_aux_lemma => kernel_rfl) (by as_aux_lemma => kernel_rfl) (by as_aux_lemma => kernel_rfl) (fun _ _ _ h => hQ0 _ _ _ _ _ h) (.inl ⟨rfl, fun w' hw => by have h1 := hw.c.2.2.1; simp [go_sem, h1]⟩) lc1 ?_
    refine wpAnyH_take (i := 3) (v := .pointer (some ⟨c, 0, none⟩)) rfl (by as_aux_lemma => kernel_rfl) (by as_aux_lemma => kernel_rfl) (by as_aux_lemma => kernel_rfl) (fun _ _ _ h => hQ0 _ _ _ _ _ h) (.inl ⟨rfl, fun w' _ => by simp [go_sem]⟩) lc1 ?_
    refine wpAnyH_take (i := 4) (v := .pointer (some ⟨bx, 2, none⟩)) rfl (by as_aux_lemma => kernel_rfl) (by as_aux_lemma => kernel_rfl) (by as_aux_lemma => kernel_rfl) (fun _ _ _ h => hQ0 _ _ _ _ _ h) (.inl ⟨rfl, fun w' _ => by simp [go_sem]⟩) lc1 ?_
    refine wpAnyH_take (i := 5) (v := .string ⟨f.toArray⟩) rfl (by as_aux_lemma => kernel_rfl) (by as_aux_lemma => kernel_rfl) (by as_aux_lemma => kernel_rfl) (fun _ _ _ h => hQ0 _ _ _ _ _ h) (.inl ⟨rfl, fun w' hw => by have h1 := hw.c.2.2.1; simp [go_sem, h1]⟩) lc1 ?_
    refine wpAnyH_all (rs := [2]) (by as_aux_lemma => kernel_rfl) (by simp) fun j hj => ?_
    obtain rfl : j = 2 := by simpa using hj
    refine wpOp_go rfl rfl ?_
    unfold Oper.wp
    simp [go_sem]
    refine cA.mono ?_
    rintro y W2 ⟨z, rfl, hF2, cB⟩
    have lc2 : Xs bx ⟨1, n, f, o⟩ W2 := ⟨hF2 _ _ HX1.out⟩
    refine ⟨lc2, ?_⟩
    refine wpAnyH_all (rs := [6]) (by as_aux_lemma => kernel_rfl) (by simp) fun j hj => ?_
    obtain rfl : j = 6 := by simpa using hj
    refine wpOp_go rfl rfl ?_
    unfold Oper.wp
    simp [go_sem]
    refine cB.mono ?_
    rintro y W3 ⟨rfl, hF3, hJ3⟩
    have lc3 : Xs bx ⟨1, n, f, o⟩ W3 := ⟨hF3 _ _ lc2.x⟩
    refine ⟨lc3, ?_⟩
    have cC := bare_evv z W3 (HE.out.on hJ3.bl)
    refine wpAnyH_all (rs := [7]) (by as_aux_lemma => kernel_rfl) (by simp) fun j hj => ?_
    obtain rfl : j = 7 := by simpa using hj
    refine wpOp_go rfl rfl ?_
    unfold Oper.wp
    simp [go_sem]
    refine cC.mono ?_
    rintro y W4 ⟨rfl, hb4⟩
    have hJ4 := hJ3.up hb4
    have lc4 : Xs bx ⟨1, n, f, o⟩ W4 := ⟨F29.below hb4 _ _ lc3.x⟩
    refine ⟨lc4, ?_⟩
    refine wpAnyH_all (rs := [8]) (by as_aux_lemma => kernel_rfl) (by simp) fun j hj => ?_
    obtain rfl : j = 8 := by simpa using hj
    refine wpOp_go rfl rfl ?_
    unfold Oper.wp
    simp [go_sem]
    refine ⟨lc4, wpAnyH_done (by as_aux_lemma => kernel_rfl) ?_ _⟩
    go_wp2_with fail
    go_meet
    case rel => exact ⟨hJ4, lc4.x⟩
  by_cases h2 : t = 2
  · subst h2
    have cA := act_move hJD hk60 f o hf ho
    go_wp2_with fail
    have lc1 : Xs bx ⟨2, n, f, o⟩ W1.drew := ⟨HX1.out⟩
    refine wp_region_held (S := Xs bx ⟨2, n, f, o⟩) (by kernel_rfl) ?_
    refine wpAnyH_take (i := 0) (v := .pointer (some ⟨bx, 2, none⟩)) rfl (by as_aux_lemma => kernel_rfl) (by as_aux_lemma => kernel_rfl) (by as_aux_lemma => kernel_rfl) (fun _ _ _ h => hQ0 _ _ _ _ _ h) (.inl ⟨rfl, fun w' _ => by simp [go_sem]⟩) lc1 ?_
    refine wpAnyH_take (i := 1) (v := .string ⟨f.toArray⟩) rfl (by as_aux_lemma => kernel_rfl) (by as_aux_lemma => kernel_rfl) (by as_aux_lemma => kernel_rfl) (fun _ _ _ h => hQ0 _ _ _ _ _ h) (.inl ⟨rfl, fun w' hw => by have h1 := hw.c.2.2.1; simp [go_sem, h1]⟩) lc1 ?_
    refine wpAnyH_take (i := 2) (v := .pointer (some ⟨bx, 3, none⟩)) rfl (by as_aux_lemma => kernel_rfl) (by as_aux_lemma => kernel_rfl) (by as_aux_lemma => kernel_rfl) (fun _ _ _ h => hQ0 _ _ _ _ _ h) (.inl ⟨rfl, fun w' _ => by simp [go_sem]⟩) lc1 ?_
    refine wpAnyH_take (i := 3) (v := .string ⟨o.toArray⟩) rfl (by as_aux_lemma => kernel_rfl) (by as_aux_lemma => kernel_rfl) (by as_aux_lemma => kernel_rfl) (fun _ _ _ h => hQ0 _ _ _ _ _ h) (.inl ⟨rfl, fun w' hw => by have h1 := hw.c.2.2.2; simp [go_sem, h1]⟩) lc1 ?_
    refine wpAnyH_take (i := 5) (v := .pointer (some ⟨c, 0, none⟩)) rfl (by as_aux_lemma => kernel_rfl) (by as_aux_lemma => kernel_rfl) (by as_aux_lemma => kernel_rfl) (fun _ _ _ h => hQ0 _ _ _ _ _ h) (.inl ⟨rfl, fun w' _ => by simp [go_sem]⟩) lc1 ?_
    refine wpAnyH_take (i := 6) (v := .pointer (some ⟨bx, 2, none⟩)) rfl (by as_aux_lemma => kernel_rfl) (by as_aux_lemma => kernel_rfl) (by as_aux_lemma => kernel_rfl) (fun _ _ _ h => hQ0 _ _ _ _ _ h) (.inl ⟨rfl, fun w' _ => by simp [go_sem]⟩) lc1 ?_
    refine wpAnyH_take (i := 7) (v := .string ⟨f.toArray⟩) rfl (by as_aux_lemma => kernel_rfl) (by as_aux_lemma => kernel_rfl) (by as_aux_lemma => kernel_rfl) (fun _ _ _ h => hQ0 _ _ _ _ _ h) (.inl ⟨rfl, fun w' hw => by have h1 := hw.c.2.2.1; simp [go_sem, h1]⟩) lc1 ?_
    refine wpAnyH_take (i := 8) (v := .pointer (some ⟨bx, 3, none⟩)) rfl (by as_aux_lemma => kernel_rfl) (by as_aux_lemma => kernel_rfl) (by as_aux_lemma => kernel_rfl) (fun _ _ _ h => hQ0 _ _ _ _ _ h) (.inl ⟨rfl, fun w' _ => by simp [go_sem]⟩) lc1 ?_
    refine wpAnyH_take (i := 9) (v := .string ⟨o.toArray⟩) rfl (by as_aux_lemma => kernel_rfl) (by as_aux_lemma => kernel_rfl) (by as_aux_lemma => kernel_rfl) (fun _ _ _ h => hQ0 _ _ _ _ _ h) (.inl ⟨rfl, fun w' hw => by have h1 := hw.c.2.2.2; simp [go_sem, h1]⟩) lc1 ?_
    refine wpAnyH_all (rs := [4]) (by as_aux_lemma => kernel_rfl) (by simp) fun j hj => ?_
    obtain rfl : j = 4 := by simpa using hj
    refine wpOp_go rfl rfl ?_
    unfold Oper.wp
    simp [go_sem]
    refine cA.mono ?_
    rintro y W2 ⟨z, rfl, hF2, cB⟩
    have lc2 : Xs bx ⟨2, n, f, o⟩ W2 := ⟨hF2 _ _ HX1.out⟩
    refine ⟨lc2, ?_⟩
    refine wpAnyH_all (rs := [10]) (by as_aux_lemma => kernel_rfl) (by simp) fun j hj => ?_
    obtain rfl : j = 10 := by simpa using hj
    refine wpOp_go rfl rfl ?_
    unfold Oper.wp
    simp [go_sem]
    refine cB.mono ?_
    rintro y W3 ⟨rfl, hF3, hJ3⟩
    have lc3 : Xs bx ⟨2, n, f, o⟩ W3 := ⟨hF3 _ _ lc2.x⟩
    refine ⟨lc3, ?_⟩
    have cC := bare_evv z W3 (HE.out.on hJ3.bl)
    refine wpAnyH_all (rs := [11]) (by as_aux_lemma => kernel_rfl) (by simp) fun j hj => ?_
    obtain rfl : j = 11 := by simpa using hj
    refine wpOp_go rfl rfl ?_
    unfold Oper.wp
    simp [go_sem]
    refine cC.mono ?_
    rintro y W4 ⟨rfl, hb4⟩
    have hJ4 := hJ3.up hb4
    have lc4 : Xs bx ⟨2, n, f, o⟩ W4 := ⟨F29.below hb4 _ _ lc3.x⟩
    refine ⟨lc4, ?_⟩
    refine wpAnyH_all (rs := [12]) (by as_aux_lemma => kernel_rfl) (by simp) fun j hj => ?_
    obtain rfl : j = 12 := by simpa using hj
    refine wpOp_go rfl rfl ?_
    unfold Oper.wp
    simp [go_sem]
    refine ⟨lc4, wpAnyH_done (by as_aux_lemma => kernel_rfl) ?_ _⟩
    go_wp2_with fail
    go_meet
    case rel => exact ⟨hJ4, lc4.x⟩
  by_cases h3 : t = 3
  · subst h3
    have cA := act_remove hJD hk60 f hf
    go_wp2_with fail
    have lc1 : Xs bx ⟨3, n, f, o⟩ W1.drew := ⟨HX1.out⟩
    refine wp_region_held (S := Xs bx ⟨3, n, f, o⟩) (by kernel_rfl) ?_
    refine wpAnyH_take (i := 0) (v := .pointer (some ⟨bx, 2, none⟩)) rfl (by as_aux_lemma => kernel_rfl) (by as_aux_lemma => kernel_rfl) (by as_aux_lemma => kernel_rfl) (fun _ _ _ h => hQ0 _ _ _ _ _ h) (.inl ⟨rfl, fun w' _ => by simp [go_sem]⟩) lc1 ?_
    refine wpAnyH_take (i := 1) (v := .string ⟨f.toArray⟩) rfl (by as_aux_lemma => kernel_rfl) (by as_aux_lemma => kernel_rfl) (by as_aux_lemma => kernel_rfl) (fun _ _ _ h => hQ0 _ _ _ _ _ h) (.inl ⟨rfl, fun w' hw => by have h1 := hw.c.2.2.1; simp [go_sem, h1]⟩) lc1 ?_
    refine wpAnyH_take (i := 3) (v := .pointer (some ⟨c, 0, none⟩)) rfl (by as_aux_lemma => kernel_rfl) (by as_aux_lemma => kernel_rfl) (by as_aux_lemma => kernel_rfl) (fun _ _ _ h => hQ0 _ _ _ _ _ h) (.inl ⟨rfl, fun w' _ => by simp [go_sem]⟩) lc1 ?_
    refine wpAnyH_take (i := 4) (v := .pointer (some ⟨bx, 2, none⟩)) rfl (by as_aux_lemma => kernel_rfl) (by as_aux_lemma => kernel_rfl) (by as_aux_lemma => kernel_rfl) (fun _ _ _ h => hQ0 _ _ _ _ _ h) (.inl ⟨rfl, fun w' _ => by simp [go_sem]⟩) lc1 ?_
    refine wpAnyH_take (i := 5) (v := .string ⟨f.toArray⟩) rfl (by as_aux_lemma => kernel_rfl) (by as_aux_lemma => kernel_rfl) (by as_aux_lemma => kernel_rfl) (fun _ _ _ h => hQ0 _ _ _ _ _ h) (.inl ⟨rfl, fun w' hw => by have h1 := hw.c.2.2.1; simp [go_sem, h1]⟩) lc1 ?_
    refine wpAnyH_all (rs := [2]) (by as_aux_lemma => kernel_rfl) (by simp) fun j hj => ?_
    obtain rfl : j = 2 := by simpa using hj
    refine wpOp_go rfl rfl ?_
    unfold Oper.wp
    simp [go_sem]
    refine cA.mono ?_
    rintro y W2 ⟨z, rfl, hF2, cB⟩
    have lc2 : Xs bx ⟨3, n, f, o⟩ W2 := ⟨hF2 _ _ HX1.out⟩
    refine ⟨lc2, ?_⟩
    refine wpAnyH_all (rs := [6]) (by as_aux_lemma => kernel_rfl) (by simp) fun j hj => ?_
    obtain rfl : j = 6 := by simpa using hj
    refine wpOp_go rfl rfl ?_
    unfold Oper.wp
    simp [go_sem]
    refine cB.mono ?_
    rintro y W3 ⟨rfl, hF3, hJ3⟩
    have lc3 : Xs bx ⟨3, n, f, o⟩ W3 := ⟨hF3 _ _ lc2.x⟩
    refine ⟨lc3, ?_⟩
    have cC := bare_evv z W3 (HE.out.on hJ3.bl)
    refine wpAnyH_all (rs := [7]) (by as_aux_lemma => kernel_rfl) (by simp) fun j hj => ?_
    obtain rfl : j = 7 := by simpa using hj
    refine wpOp_go rfl rfl ?_
    unfold Oper.wp
    simp [go_sem]
    refine cC.mono ?_
    rintro y W4 ⟨rfl, hb4⟩
    have hJ4 := hJ3.up hb4
    have lc4 : Xs bx ⟨3, n, f, o⟩ W4 := ⟨F29.below hb4 _ _ lc3.x⟩
    refine ⟨lc4, ?_⟩
    refine wpAnyH_all (rs := [8]) (by as_aux_lemma => kernel_rfl) (by simp) fun j hj => ?_
    obtain rfl : j = 8 := by simpa using hj
    refine wpOp_go rfl rfl ?_
    unfold Oper.wp
    simp [go_sem]
    refine ⟨lc4, wpAnyH_done (by as_aux_lemma => kernel_rfl) ?_ _⟩
    go_wp2_with fail
    go_meet
    case rel => exact ⟨hJ4, lc4.x⟩
  by_cases h4 : t = 4
  · subst h4
    have hX := (Xs.mk HX1.out).c
    obtain ⟨x0, x1, x2, x3⟩ := hX
    have cA := act_cut hJX n hxn
    go_wp2_with fail
    refine cA.mono ?_
    rintro y W2 ⟨rfl, hA⟩
    have hX2 := hA.f _ _ HX1.out
    obtain ⟨y0, y1, y2, y3⟩ := (Xs.mk hX2).c
    obtain ⟨z, hz⟩ := hA.cell
    have hfz := hA.fz
    have hlt2 := hA.lt
    go_wp2_with fail
    go_meet
    case rel => exact ⟨hA.j.mono (Nat.le_succ _), hA.f2 _ _ hX2⟩
  by_cases h5 : t = 5
  · subst h5
    have hX := (Xs.mk HX1.out).c
    obtain ⟨x0, x1, x2, x3⟩ := hX
    have cA := act_room hJX n
    go_wp2_with fail
    refine cA.mono ?_
    rintro y W2 ⟨rfl, hA⟩
    have hX2 := hA.f _ _ HX1.out
    obtain ⟨y0, y1, y2, y3⟩ := (Xs.mk hX2).c
    obtain ⟨z, hz⟩ := hA.cell
    have hfz := hA.fz
    have hlt2 := hA.lt
    go_wp2_with fail
    go_meet
    case rel => exact ⟨hA.j.mono (Nat.le_succ _), hA.f2 _ _ hX2⟩
  by_cases h6 : t = 6
  · subst h6
    have hX := (Xs.mk HX1.out).c
    obtain ⟨x0, x1, x2, x3⟩ := hX
    have cA := act_start hJX hk60 n hxn
    go_wp2_with fail
    refine cA.mono ?_
    rintro y W2 ⟨rfl, hF2, cB⟩
    have hX2 := hF2 _ _ HX1.out
    obtain ⟨y0, y1, y2, y3⟩ := (Xs.mk hX2).c
    go_wp2_with fail
    refine cB.mono ?_
    rintro y W3 ⟨rfl, hF3, hJ3⟩
    go_wp2_with fail
    go_meet
    case rel => exact ⟨hJ3.mono (Nat.le_succ _), hF3 _ _ hX2⟩
  · have g0 : (t == 0) = false := by rw [beq_eq_false_iff_ne]; exact h0
    have g1 : (t == 1) = false := by rw [beq_eq_false_iff_ne]; exact h1
    have g2 : (t == 2) = false := by rw [beq_eq_false_iff_ne]; exact h2
    have g3 : (t == 3) = false := by rw [beq_eq_false_iff_ne]; exact h3
    have g4 : (t == 4) = false := by rw [beq_eq_false_iff_ne]; exact h4
    have g5 : (t == 5) = false := by rw [beq_eq_false_iff_ne]; exact h5
    have g6 : (t == 6) = false := by rw [beq_eq_false_iff_ne]; exact h6
    clear h0 h1 h2 h3 h4 h5 h6
    go_wp2_with fail
    go_meet
    case rel => exact ⟨HJ1.out.mono (Nat.le_succ _), HX1.out⟩
end Go.Proofs.YtjllnhdampjieaaDoor
