/-
  Joined: Rpf.
-/
import Derived.Test.YtpkppobkagdhkaaGreatJ38

/-
  The document's player: Do, each Kind.
-/
namespace Go.Proofs.YtpkppobkagdhkaaGreat
open Go.RowKit Go.Maps Utf
set_option linter.unusedVariables false
set_option linter.unusedSimpArgs false

section
variable {tag tag' : Nat → Nat} {w w' : World} {b d k g : Nat} {l1 l2 : Sl} {s : Py} {o : Ot} {p : Sl} {q : Bool} {A : Ar}

theorem Dn.quirk (h : Dn tag w d q A) (q' : Bool) : Dn tag (w.setCell ⟨d, 1, none⟩ (.bool q')) d q' A ∧ Dv tag w tag (w.setCell ⟨d, 1, none⟩ (.bool q')) := by
  obtain ⟨g, o, c, pl, h⟩ := h
  have k1 : Kp [d] w (w.setCell ⟨d, 1, none⟩ (.bool q')) := (Kp.refl _ _).setCell (Or.inl (by simp)) _
  have hs : Sm (Q5 tag) w (w.setCell ⟨d, 1, none⟩ (.bool q')) := k1.sms (fun x hq hx => by rw [List.mem_singleton.1 hx] at hq; have := h.td; omega)
  obtain ⟨cur, h1, h2, h3⟩ := h.body
  refine ⟨⟨g, o, c, pl, h.hd.set 1 _, h.td, h.cap, h.max, ⟨cur, h1.kept k1 (by simpa using Ne.symm h.ne), h2, h3⟩, h.tg, fun i hi => (h.att i hi).keep hs, fun i hi => (h.kid i hi).keep hs, h.kf⟩, Dv.of_kp k1 (fun x hx _ => by rw [List.mem_singleton.1 hx]; exact .inl h.td) (fun _ _ => rfl)⟩

theorem Py.Fit.bnd {s : Py} {k : Nat} (h : s.Fit k) : s.A.n < 40000 ∧ (∀ x, (s.A.lb x).text.size ≤ 900000) ∧ ∀ x, (s.A.lb x).attrs.length ≤ 10000 := by
  have hk := h.hk
  refine ⟨by have := h.sz.n; omega, fun x => by have := (h.sz.lbs x).2.1; omega, fun x => by have := (h.sz.lbs x).2.2.len; omega⟩

set_option maxRecDepth 100000 in
set_option maxHeartbeats 4000000 in
theorem rdo_okx (h : Pd tag w b d l1 l2 s k) (hk : k < 1300) (ho : tinyO o) (hr : R0 tag w p o.al) (hq : rightO o = true) (i1 : (o.kd == 1) = false) (i2 : (o.kd == 9) = false) (hall : (askF o).all s.kn = true) (hn : s.kn o.nd = true) (hp : s.kn o.pa = true) (hr3 : s.kn o.rf = true) :
    Calls Tryz.prog 31 #[.pointer (some ⟨b, 0, none⟩), ov o p] w fun e w' => e = .returned (.int .i64 (s.perF o (s.nz o.nd) (s.nz o.pa) (s.nz o.rf)).2) ∧ Rn tag w b d k (s.perF o (s.nz o.nd) (s.nz o.pa) (s.nz o.rf)).1 w' := by
  obtain ⟨_, _, _, r7, r8⟩ := right_of hq
  obtain ⟨tag1, W1, g, hg, HW, X, v1⟩ := Dx.open (o := o) h hr
  obtain ⟨HR, HN, HO, HA, HC⟩ := X.asks ho hq
  obtain ⟨f0, f1, f2, f3, f4, f5, f6, f7, f8⟩ := nine_at X.bx
  have hL3 := askF_len o
  have HK : Hid (∀ V, Kp [] W1 V → Dx tag1 V b d l1 l2 s k g o p ∧ Qv tag w tag1 V) := fun V kV => ⟨X.kept kV, v1.trans (Qv.of_kp0 kV)⟩
  obtain ⟨hb1, hb2, hb3⟩ := h.fit.bnd
  have ful := h.fit.ful
  have hrf := h.fit.nz_lt o.rf
  have hf := h.fit.perF hk ho (s.nz o.nd) (s.nz o.pa) (s.nz o.rf)
  clear h hr X v1 hq
  obtain ⟨n1, hn1⟩ : ∃ n, s.nz o.nd = n := ⟨_, rfl⟩
  obtain ⟨n2, hn2⟩ : ∃ n, s.nz o.pa = n := ⟨_, rfl⟩
  obtain ⟨n3, hn3⟩ : ∃ n, s.nz o.rf = n := ⟨_, rfl⟩
  rw [hn1, hn2, hn3] at hf ⊢
  rw [hn3] at hrf
  have hn1 : Hid (s.nz o.nd = n1) := hn1
  have hn2 : Hid (s.nz o.pa = n2) := hn2
  have hn3 : Hid (s.nz o.rf = n3) := hn3
  unfold ov at HR HA ⊢
  go_enter Tryz.func31, Tryz.ntmps31
  go_upto_region 1 with fail
  rw [HW.out]
  clear HW
  go_wp2_with (first | (go_at_call 48; refine HR.mono ?_; rintro e W2 ⟨rfl, k2⟩; obtain ⟨f0, f1, f2, f3, f4, f5, f6, f7, f8⟩ := HC.out _ k2) | (go_at_call 50; refine (HA.out _).mono ?_; rintro e W3 ⟨ao, c, rfl, rb, k3⟩))
  have k13 : Kp [] W1 W3 := k2.trans k3 (fun x hx => Or.inl hx)
  clear HA HR k3 f0 f1 f2 f3 f4 f5 f6 f7 f8
  generalize askF o = L at *
  go_loopw [6] (fun v wr => ∃ i : Nat, v = .int .i64 (i : Int) ∧ i ≤ L.length ∧ wr = W3) (fun v _ => L.length - (intOf v).toNat)
  case atStart => exact ⟨0, rfl, Nat.zero_le _, rfl⟩
  case round =>
    obtain ⟨i, rfl, hi, rfl⟩ := hrel
    by_cases hlt : i < L.length
    · obtain ⟨b7, o7, rfl, f9⟩ := iz_cell rb hlt
      have j0 : (0 : Int) ≤ (i : Int) := by omega
      have j1 : (i : Int) < (L.length : Int) := by omega
      have HN1 := HN.out _ k13 L[i] (List.all_eq_true.1 hall _ (List.getElem_mem hlt))
      have t1 : decide (((s.nz L[i] : Nat) : Int) < 0) = false := decide_eq_false (by omega)
      clear rb HO HN HC HK hf ful hb1 hb2 hb3 hall
      generalize L[i] = y at *
      go_wp2_with (go_at_call 49; refine (HN1).mono ?_; rintro e w9 ⟨rfl, hw⟩; have hw2 := hw.symm; clear hw; subst hw2)
      go_roundw
      case rel => exact ⟨i + 1, by go_num, by omega, by trivial⟩
      case measure => simp [intOf]; omega
    · obtain rfl : i = L.length := by omega
      obtain ⟨U5, hU5⟩ : ∃ V, V = wr.drew := ⟨_, rfl⟩
      have k5 : Kp [] W1 U5 := by rw [hU5]; exact k13.drew
      have HN1 := HN.out _ k5 o.nd hn
      have HN2 := HN.out _ k5 o.pa hp
      have HN3 := HN.out _ k5 o.rf hr3
      rw [hn1.out] at HN1
      rw [hn2.out] at HN2
      rw [hn3.out] at HN3
      clear rb HO HN hall hlt hi
      go_upto_region 11 with fail
      refine wp_region_g (S := fun V => Nine V g 0 o p) (T := []) (by kernel_rfl) (HC.out _ k13.drew) (fun hHeld => ?_)
      rw [← hU5] at hHeld ⊢
      clear hU5
      refine g_pure 0 (some 46) (.move (.tmp 0)) ?_
      refine g_pure 1 (some 47) (.fieldAddr 24 (.tmp 3) 1) ?_
      refine g_take 2 (some 48) (.load 3 (.tmp 47)) (by intro w hSw; (obtain ⟨q0, q1, q2, q3, q4, q5, q6, q7, q8⟩ := hSw); go_simp; try with_reducible rfl) ?_
      refine g_pure 4 (some 50) (.move (.tmp 0)) ?_
      refine g_pure 5 (some 51) (.fieldAddr 24 (.tmp 3) 2) ?_
      refine g_take 6 (some 52) (.load 3 (.tmp 51)) (by intro w hSw; (obtain ⟨q0, q1, q2, q3, q4, q5, q6, q7, q8⟩ := hSw); go_simp; try with_reducible rfl) ?_
      refine g_pure 8 (some 54) (.move (.tmp 0)) ?_
      refine g_pure 9 (some 55) (.fieldAddr 24 (.tmp 3) 3) ?_
      refine g_take 10 (some 56) (.load 3 (.tmp 55)) (by intro w hSw; (obtain ⟨q0, q1, q2, q3, q4, q5, q6, q7, q8⟩ := hSw); go_simp; try with_reducible rfl) ?_
      refine wpAnyG_ready (rs := [3]) (by kernel_rfl) (by simp) ?_
      refine AllReadyG.cons (o := ⟨some 49, .call { callee := .value (.func 49), args := #[.tmp 46, .tmp 48], argTypes := #[71, 3] }, 3, _, _, none⟩) rfl (fun K hK => ?_) AllReadyG.nil
      go_simp
      go_at_call 49
      refine (HN1).mono ?_
      rintro e w9 ⟨rfl, hw⟩
      have hw2 := hw.symm
      clear hw
      subst hw2
      go_wp2_with fail
      refine hK.out _ _ (HC.out _ k5) (fun hHeld1 => ?_)
      clear hK K hHeld
      try simp only [Act.put, pu1, pu2, pu3]
      refine wpAnyG_ready (rs := [7]) (by kernel_rfl) (by simp) ?_
      refine AllReadyG.cons (o := ⟨some 53, .call { callee := .value (.func 49), args := #[.tmp 50, .tmp 52], argTypes := #[71, 3] }, 3, _, _, none⟩) rfl (fun K hK => ?_) AllReadyG.nil
      go_simp
      go_at_call 49
      refine (HN2).mono ?_
      rintro e w9 ⟨rfl, hw⟩
      have hw2 := hw.symm
      clear hw
      subst hw2
      go_wp2_with fail
      refine hK.out _ _ (HC.out _ k5) (fun hHeld2 => ?_)
      clear hK K hHeld1
      try simp only [Act.put, pu1, pu2, pu3]
      refine wpAnyG_ready (rs := [11]) (by kernel_rfl) (by simp) ?_
      refine AllReadyG.cons (o := ⟨some 57, .call { callee := .value (.func 49), args := #[.tmp 54, .tmp 56], argTypes := #[71, 3] }, 3, _, _, none⟩) rfl (fun K hK => ?_) AllReadyG.nil
      go_simp
      go_at_call 49
      refine (HN3).mono ?_
      rintro e w9 ⟨rfl, hw⟩
      have hw2 := hw.symm
      clear hw
      subst hw2
      go_wp2_with fail
      refine hK.out _ _ (HC.out _ k5) (fun hHeld3 => ?_)
      clear hK K hHeld2
      try simp only [Act.put, pu1, pu2, pu3]
      refine g_pure 12 (some 7) (.assign (.tmp 49)) ?_
      refine g_pure 13 (some 8) (.assign (.tmp 53)) ?_
      refine g_pure 14 (some 9) (.assign (.tmp 57)) ?_
      refine wpAnyG_free (by kernel_rfl) ?_
      refine wpAny_done (by kernel_rfl) ?_ _
      clear hHeld3
      clear HN1 HN2 HN3
      obtain ⟨X5, v5⟩ := HK.out _ k5
      have f0 := (HC.out _ k5).1
      clear HK k13 k2
      have hj : o.kd = 2 ∨ o.kd = 3 ∨ o.kd = 4 ∨ o.kd = 5 ∨ o.kd = 6 ∨ o.kd = 7 ∨ o.kd = 8 ∨ o.kd = 10 ∨ o.kd = 11 := by simp at i1 i2; omega
      have c0 := X5.pp.head.1
      clear i1 i2 hn hp hr3
      obtain hkd | hkd | hkd | hkd | hkd | hkd | hkd | hkd | hkd := hj
      · rw [hkd] at f0
        have eP : s.perF o n1 n2 n3 = s.upd (s.A.appF n2 n1) := by unfold Py.perF; rw [if_neg (by rw [hkd]; decide), if_pos hkd]
        rw [eP] at hf
        have HE : Hid _ := eP
        have HC9 := rapp_any X5.pp.dn ful (by omega) (n2 : Int) (n1 : Int)
        have H9 : Hid (∀ tag9 W9 q9 A9, Dn tag9 W9 d q9 A9 → Dv tag1 U5 tag9 W9 → (Py.mk A9 q9 s.M).Fit (k + 1) → Rn tag w b d k ⟨A9, q9, s.M⟩ W9) := fun tag9 W9 q9 A9 d9 m9 f9 => X5.fin v5 d9 m9 f9
        clear X5 v5 HC eP
        go_wp2_with (go_at_call 53; refine HC9.mono ?_; rintro e W9 ⟨rfl, tag9, d9, m9⟩)
        go_ret
        rw [HE.out]
        exact ⟨rfl, H9.out _ _ _ _ d9 m9 hf⟩
      · rw [hkd] at f0
        have eP : s.perF o n1 n2 n3 = s.upd (s.A.befF n3 n1) := by unfold Py.perF; rw [if_neg (by rw [hkd]; decide), if_neg (by rw [hkd]; decide), if_pos hkd]
        rw [eP] at hf
        have HE : Hid _ := eP
        have HC9 := rbef_any X5.pp.dn ful (by omega) (n3 : Int) (n1 : Int)
        have H9 : Hid (∀ tag9 W9 q9 A9, Dn tag9 W9 d q9 A9 → Dv tag1 U5 tag9 W9 → (Py.mk A9 q9 s.M).Fit (k + 1) → Rn tag w b d k ⟨A9, q9, s.M⟩ W9) := fun tag9 W9 q9 A9 d9 m9 f9 => X5.fin v5 d9 m9 f9
        clear X5 v5 HC eP
        go_wp2_with (go_at_call 54; refine HC9.mono ?_; rintro e W9 ⟨rfl, tag9, d9, m9⟩)
        go_ret
        rw [HE.out]
        exact ⟨rfl, H9.out _ _ _ _ d9 m9 hf⟩
      · rw [hkd] at f0
        have eP : s.perF o n1 n2 n3 = s.fosF n3 n2 n1 := by unfold Py.perF; rw [if_neg (by rw [hkd]; decide), if_neg (by rw [hkd]; decide), if_neg (by rw [hkd]; decide), if_pos hkd]
        rw [eP] at hf
        have HE : Hid _ := eP
        have HB := rbef_any X5.pp.dn ful (by omega) (n3 : Int) (n1 : Int)
        have HA9 := rapp_any X5.pp.dn ful (by omega) (n2 : Int) (n1 : Int)
        obtain ⟨g5, o5, c5, pl5, D5⟩ := X5.pp.dn
        have e0 := D5.head.1
        have e6 := (D5.seven hrf).2.2.2.2.2.2
        have j3 : (0 : Int) ≤ (n3 : Int) := by omega
        have j4 : (n3 : Int) < (s.A.n : Int) := by omega
        have H9 : Hid (∀ tag9 W9 q9 A9, Dn tag9 W9 d q9 A9 → Dv tag1 U5 tag9 W9 → (Py.mk A9 q9 s.M).Fit (k + 1) → Rn tag w b d k ⟨A9, q9, s.M⟩ W9) := fun tag9 W9 q9 A9 d9 m9 f9 => X5.fin v5 d9 m9 f9
        unfold Py.fosF at hf HE
        clear X5 v5 HC eP D5
        cases hu : s.A.up n3 with
        | none =>
          rw [hu] at e6 hf HE
          rw [if_neg (by simp)] at hf
          have HE : Hid (s.perF o n1 n2 n3 = s.upd (s.A.appF n2 n1)) := by rw [HE.out, if_neg (by simp)]; exact rfl
          have e6 : U5.cell? ⟨g5, o5 + n3 * 7 + 6, none⟩ = some (.int .i64 (-1)) := e6
          clear HB
          go_wp2_with (go_at_call 53; refine HA9.mono ?_; rintro e W9 ⟨rfl, tag9, d9, m9⟩)
          go_ret
          rw [HE.out]
          exact ⟨rfl, H9.out _ _ _ _ d9 m9 hf⟩
        | some y =>
          rw [hu] at e6 hf HE
          rw [if_pos (by simp)] at hf
          have HE : Hid (s.perF o n1 n2 n3 = s.upd (s.A.befF n3 n1)) := by rw [HE.out, if_pos (by simp)]; exact rfl
          have e6 : U5.cell? ⟨g5, o5 + n3 * 7 + 6, none⟩ = some (.int .i64 (y : Int)) := e6
          have y0 : (0 : Int) ≤ (y : Int) := by omega
          clear HA9
          go_wp2_with (go_at_call 54; refine HB.mono ?_; rintro e W9 ⟨rfl, tag9, d9, m9⟩)
          go_ret
          rw [HE.out]
          exact ⟨rfl, H9.out _ _ _ _ d9 m9 hf⟩
      · rw [hkd] at f0
        have eP : s.perF o n1 n2 n3 = s.upd (s.A.wrF (n2 : Int) o.tt) := by unfold Py.perF; rw [if_neg (by rw [hkd]; decide), if_neg (by rw [hkd]; decide), if_neg (by rw [hkd]; decide), if_neg (by rw [hkd]; decide), if_pos hkd]
        rw [eP] at hf
        have HE : Hid _ := eP
        have HC9 : Hid (∀ V, Kp [] U5 V → Calls Tryz.prog 55 #[.pointer (some ⟨d, 0, none⟩), .int .i64 (n2 : Int), .string o.tt] V fun e w' => e = .returned (.int .i64 (s.A.wrF (n2 : Int) o.tt).2) ∧ ∃ tag', Dn tag' w' d s.q (s.A.wrF (n2 : Int) o.tt).1 ∧ Dv tag1 V tag' w') := fun V kV => by
          have Z := X5.kept kV
          exact rwrite_any Z.pp.dn ful hb1 (n2 : Int) o.tt (by have := ho.tt; omega) hb2
        have HS9 : Hid (∀ V, Kp [] U5 V → V.cell? ⟨b, 0, none⟩ = some (.pointer (some ⟨d, 0, none⟩)) ∧ V.cell? ⟨g, 8, none⟩ = some (.string o.tt)) := fun V kV => ⟨(X5.pp.kept kV).head.1, (X5.bx.kept kV (by simp)).cell 8⟩
        have H9 : Hid (∀ V tag9 W9, Kp [] U5 V → Dn tag9 W9 d s.q (s.A.wrF (n2 : Int) o.tt).1 → Dv tag1 V tag9 W9 → (W9.cell? ⟨b, 0, none⟩ = some (.pointer (some ⟨d, 0, none⟩)) ∧ W9.cell? ⟨g, 8, none⟩ = some (.string o.tt)) ∧ Rn tag w b d k (s.upd (s.A.wrF (n2 : Int) o.tt)).1 W9) := fun V tag9 W9 kV d9 m9 => by
          have Z := X5.kept kV
          exact ⟨⟨(Z.pp.dv m9 d9 hf).head.1, (Z.bx.qv Z.t0 m9.qv).cell 8⟩, Z.fin (v5.trans (Qv.of_kp0 kV)) d9 m9 hf⟩
        clear X5 v5 HC eP hf
        go_upto_region 34 with fail
        refine wp_region_g (S := fun V => V.cell? ⟨b, 0, none⟩ = some (.pointer (some ⟨d, 0, none⟩)) ∧ V.cell? ⟨g, 8, none⟩ = some (.string o.tt)) (T := []) (by kernel_rfl) (HS9.out _ (Kp.refl _ _).drew) (fun hHeld => ?_)
        refine g_pure 0 (some 183) (.move (.tmp 0)) ?_
        refine g_pure 1 (some 184) (.nilCheck (.tmp 183)) ?_
        refine g_pure 2 (some 185) (.fieldAddr 104 (.tmp 184) 0) ?_
        refine g_take 3 (some 186) (.load 63 (.tmp 185)) (by intro w hSw; (obtain ⟨q0, q1⟩ := hSw); go_simp; try with_reducible rfl) ?_
        refine g_pure 4 (some 187) (.move (.tmp 8)) ?_
        refine g_pure 5 (some 188) (.fieldAddr 24 (.tmp 3) 8) ?_
        refine g_take 6 (some 189) (.load 9 (.tmp 188)) (by intro w hSw; (obtain ⟨q0, q1⟩ := hSw); go_simp; try with_reducible rfl) ?_
        refine wpAnyG_ready (rs := [7]) (by kernel_rfl) (by simp) ?_
        refine AllReadyG.cons (o := ⟨some 190, .call { callee := .value (.func 55), args := #[.tmp 186, .tmp 187, .tmp 189], argTypes := #[63, 3, 9] }, 3, _, _, none⟩) rfl (fun K hK => ?_) AllReadyG.nil
        go_simp
        go_at_call 55
        refine (HC9.out _ (Kp.refl _ _).drew).mono ?_
        rintro e W9 ⟨rfl, tag9, d9, m9⟩
        go_wp2_with fail
        have Y9 := H9.out _ _ _ (Kp.refl _ _).drew d9 m9
        refine hK.out _ _ Y9.1 (fun hHeld1 => ?_)
        clear hK K hHeld
        try simp only [Act.put, pu1, pu2, pu3]
        refine g_pure 8 (some 4) (.assign (.tmp 190)) ?_
        refine wpAnyG_free (by kernel_rfl) ?_
        refine wpAny_done (by kernel_rfl) ?_ _
        have Y3 : Hid _ := Y9.2
        clear HC9 HS9 H9 Y9 hHeld1 d9 m9
        go_wp2
        go_ret
        rw [HE.out]
        exact ⟨rfl, Y3.out⟩
      · rw [hkd] at f0
        have eP : s.perF o n1 n2 n3 = s.pouF n3 n2 o.tt := by unfold Py.perF; rw [if_neg (by rw [hkd]; decide), if_neg (by rw [hkd]; decide), if_neg (by rw [hkd]; decide), if_neg (by rw [hkd]; decide), if_neg (by rw [hkd]; decide), if_pos hkd]
        rw [eP] at hf
        have HE : Hid _ := eP
        obtain ⟨g5, o5, c5, pl5, D5⟩ := X5.pp.dn
        have e0 := D5.head.1
        have e6 := (D5.seven hrf).2.2.2.2.2.2
        have j3 : (0 : Int) ≤ (n3 : Int) := by omega
        have j4 : (n3 : Int) < (s.A.n : Int) := by omega
        unfold Py.pouF at hf HE
        clear eP D5
        cases hu : s.A.up n3 with
        | none =>
          rw [hu] at e6 hf HE
          rw [if_neg (by simp)] at hf
          have HE : Hid (s.perF o n1 n2 n3 = s.upd (s.A.wrF n2 o.tt)) := by rw [HE.out, if_neg (by simp)]; exact rfl
          have e6 : U5.cell? ⟨g5, o5 + n3 * 7 + 6, none⟩ = some (.int .i64 (-1)) := e6
          have HC9 : Hid (∀ V, Kp [] U5 V → Calls Tryz.prog 55 #[.pointer (some ⟨d, 0, none⟩), .int .i64 (n2 : Int), .string o.tt] V fun e w' => e = .returned (.int .i64 (s.A.wrF (n2 : Int) o.tt).2) ∧ ∃ tag', Dn tag' w' d s.q (s.A.wrF (n2 : Int) o.tt).1 ∧ Dv tag1 V tag' w') := fun V kV => by
            have Z := X5.kept kV
            exact rwrite_any Z.pp.dn ful hb1 (n2 : Int) o.tt (by have := ho.tt; omega) hb2
          have HS9 : Hid (∀ V, Kp [] U5 V → V.cell? ⟨b, 0, none⟩ = some (.pointer (some ⟨d, 0, none⟩)) ∧ V.cell? ⟨g, 8, none⟩ = some (.string o.tt)) := fun V kV => ⟨(X5.pp.kept kV).head.1, (X5.bx.kept kV (by simp)).cell 8⟩
          have H9 : Hid (∀ V tag9 W9, Kp [] U5 V → Dn tag9 W9 d s.q (s.A.wrF (n2 : Int) o.tt).1 → Dv tag1 V tag9 W9 → (W9.cell? ⟨b, 0, none⟩ = some (.pointer (some ⟨d, 0, none⟩)) ∧ W9.cell? ⟨g, 8, none⟩ = some (.string o.tt)) ∧ Rn tag w b d k (s.upd (s.A.wrF (n2 : Int) o.tt)).1 W9) := fun V tag9 W9 kV d9 m9 => by
            have Z := X5.kept kV
            exact ⟨⟨(Z.pp.dv m9 d9 hf).head.1, (Z.bx.qv Z.t0 m9.qv).cell 8⟩, Z.fin (v5.trans (Qv.of_kp0 kV)) d9 m9 hf⟩
          clear X5 v5 HC hf
          go_upto_region 38 with fail
          refine wp_region_g (S := fun V => V.cell? ⟨b, 0, none⟩ = some (.pointer (some ⟨d, 0, none⟩)) ∧ V.cell? ⟨g, 8, none⟩ = some (.string o.tt)) (T := []) (by kernel_rfl) (HS9.out _ (Kp.refl _ _).drew) (fun hHeld => ?_)
          refine g_pure 0 (some 213) (.move (.tmp 0)) ?_
          refine g_pure 1 (some 214) (.nilCheck (.tmp 213)) ?_
          refine g_pure 2 (some 215) (.fieldAddr 104 (.tmp 214) 0) ?_
          refine g_take 3 (some 216) (.load 63 (.tmp 215)) (by intro w hSw; (obtain ⟨q0, q1⟩ := hSw); go_simp; try with_reducible rfl) ?_
          refine g_pure 4 (some 217) (.move (.tmp 8)) ?_
          refine g_pure 5 (some 218) (.fieldAddr 24 (.tmp 3) 8) ?_
          refine g_take 6 (some 219) (.load 9 (.tmp 218)) (by intro w hSw; (obtain ⟨q0, q1⟩ := hSw); go_simp; try with_reducible rfl) ?_
          refine wpAnyG_ready (rs := [7]) (by kernel_rfl) (by simp) ?_
          refine AllReadyG.cons (o := ⟨some 220, .call { callee := .value (.func 55), args := #[.tmp 216, .tmp 217, .tmp 219], argTypes := #[63, 3, 9] }, 3, _, _, none⟩) rfl (fun K hK => ?_) AllReadyG.nil
          go_simp
          go_at_call 55
          refine (HC9.out _ (Kp.refl _ _).drew).mono ?_
          rintro e W9 ⟨rfl, tag9, d9, m9⟩
          go_wp2_with fail
          have Y9 := H9.out _ _ _ (Kp.refl _ _).drew d9 m9
          refine hK.out _ _ Y9.1 (fun hHeld1 => ?_)
          clear hK K hHeld
          try simp only [Act.put, pu1, pu2, pu3]
          refine g_pure 8 (some 4) (.assign (.tmp 220)) ?_
          refine wpAnyG_free (by kernel_rfl) ?_
          refine wpAny_done (by kernel_rfl) ?_ _
          have Y3 : Hid _ := Y9.2
          clear HC9 HS9 H9 Y9 hHeld1 d9 m9
          go_wp2
          go_ret
          rw [HE.out]
          exact ⟨rfl, Y3.out⟩
        | some y =>
          rw [hu] at e6 hf HE
          rw [if_pos (by simp)] at hf
          have HE : Hid (s.perF o n1 n2 n3 = s.upd (s.A.wbF n3 o.tt)) := by rw [HE.out, if_pos (by simp)]; exact rfl
          have e6 : U5.cell? ⟨g5, o5 + n3 * 7 + 6, none⟩ = some (.int .i64 (y : Int)) := e6
          have y0 : (0 : Int) ≤ (y : Int) := by omega
          have HC9 : Hid (∀ V, Kp [] U5 V → Calls Tryz.prog 56 #[.pointer (some ⟨d, 0, none⟩), .int .i64 (n3 : Int), .string o.tt] V fun e w' => e = .returned (.int .i64 (s.A.wbF (n3 : Int) o.tt).2) ∧ ∃ tag', Dn tag' w' d s.q (s.A.wbF (n3 : Int) o.tt).1 ∧ Dv tag1 V tag' w') := fun V kV => by
            have Z := X5.kept kV
            exact rwbef_any Z.pp.dn ful hb1 (n3 : Int) o.tt (by have := ho.tt; omega) hb2
          have HS9 : Hid (∀ V, Kp [] U5 V → V.cell? ⟨b, 0, none⟩ = some (.pointer (some ⟨d, 0, none⟩)) ∧ V.cell? ⟨g, 8, none⟩ = some (.string o.tt)) := fun V kV => ⟨(X5.pp.kept kV).head.1, (X5.bx.kept kV (by simp)).cell 8⟩
          have H9 : Hid (∀ V tag9 W9, Kp [] U5 V → Dn tag9 W9 d s.q (s.A.wbF (n3 : Int) o.tt).1 → Dv tag1 V tag9 W9 → (W9.cell? ⟨b, 0, none⟩ = some (.pointer (some ⟨d, 0, none⟩)) ∧ W9.cell? ⟨g, 8, none⟩ = some (.string o.tt)) ∧ Rn tag w b d k (s.upd (s.A.wbF (n3 : Int) o.tt)).1 W9) := fun V tag9 W9 kV d9 m9 => by
            have Z := X5.kept kV
            exact ⟨⟨(Z.pp.dv m9 d9 hf).head.1, (Z.bx.qv Z.t0 m9.qv).cell 8⟩, Z.fin (v5.trans (Qv.of_kp0 kV)) d9 m9 hf⟩
          clear X5 v5 HC hf
          go_upto_region 37 with fail
          refine wp_region_g (S := fun V => V.cell? ⟨b, 0, none⟩ = some (.pointer (some ⟨d, 0, none⟩)) ∧ V.cell? ⟨g, 8, none⟩ = some (.string o.tt)) (T := []) (by kernel_rfl) (HS9.out _ (Kp.refl _ _).drew) (fun hHeld => ?_)
          refine g_pure 0 (some 205) (.move (.tmp 0)) ?_
          refine g_pure 1 (some 206) (.nilCheck (.tmp 205)) ?_
          refine g_pure 2 (some 207) (.fieldAddr 104 (.tmp 206) 0) ?_
          refine g_take 3 (some 208) (.load 63 (.tmp 207)) (by intro w hSw; (obtain ⟨q0, q1⟩ := hSw); go_simp; try with_reducible rfl) ?_
          refine g_pure 4 (some 209) (.move (.tmp 9)) ?_
          refine g_pure 5 (some 210) (.fieldAddr 24 (.tmp 3) 8) ?_
          refine g_take 6 (some 211) (.load 9 (.tmp 210)) (by intro w hSw; (obtain ⟨q0, q1⟩ := hSw); go_simp; try with_reducible rfl) ?_
          refine wpAnyG_ready (rs := [7]) (by kernel_rfl) (by simp) ?_
          refine AllReadyG.cons (o := ⟨some 212, .call { callee := .value (.func 56), args := #[.tmp 208, .tmp 209, .tmp 211], argTypes := #[63, 3, 9] }, 3, _, _, none⟩) rfl (fun K hK => ?_) AllReadyG.nil
          go_simp
          go_at_call 56
          refine (HC9.out _ (Kp.refl _ _).drew).mono ?_
          rintro e W9 ⟨rfl, tag9, d9, m9⟩
          go_wp2_with fail
          have Y9 := H9.out _ _ _ (Kp.refl _ _).drew d9 m9
          refine hK.out _ _ Y9.1 (fun hHeld1 => ?_)
          clear hK K hHeld
          try simp only [Act.put, pu1, pu2, pu3]
          refine g_pure 8 (some 4) (.assign (.tmp 212)) ?_
          refine wpAnyG_free (by kernel_rfl) ?_
          refine wpAny_done (by kernel_rfl) ?_ _
          have Y3 : Hid _ := Y9.2
          clear HC9 HS9 H9 Y9 hHeld1 d9 m9
          go_wp2
          go_ret
          rw [HE.out]
          exact ⟨rfl, Y3.out⟩
      · rw [hkd] at f0
        have eP : s.perF o n1 n2 n3 = s.upd (s.A.detF n1) := by unfold Py.perF; rw [if_neg (by rw [hkd]; decide), if_neg (by rw [hkd]; decide), if_neg (by rw [hkd]; decide), if_neg (by rw [hkd]; decide), if_neg (by rw [hkd]; decide), if_neg (by rw [hkd]; decide), if_pos hkd]
        rw [eP] at hf
        have HE : Hid _ := eP
        have HC9 := rdet_any X5.pp.dn ful (by omega) (n1 : Int)
        have H9 : Hid (∀ tag9 W9 q9 A9, Dn tag9 W9 d q9 A9 → Dv tag1 U5 tag9 W9 → (Py.mk A9 q9 s.M).Fit (k + 1) → Rn tag w b d k ⟨A9, q9, s.M⟩ W9) := fun tag9 W9 q9 A9 d9 m9 f9 => X5.fin v5 d9 m9 f9
        clear X5 v5 HC eP
        go_wp2_with (go_at_call 57; refine HC9.mono ?_; rintro e W9 ⟨rfl, tag9, d9, m9⟩)
        go_ret
        rw [HE.out]
        exact ⟨rfl, H9.out _ _ _ _ d9 m9 hf⟩
      · rw [hkd] at f0
        have eP : s.perF o n1 n2 n3 = s.upd (s.A.movF n3 n2) := by unfold Py.perF; rw [if_neg (by rw [hkd]; decide), if_neg (by rw [hkd]; decide), if_neg (by rw [hkd]; decide), if_neg (by rw [hkd]; decide), if_neg (by rw [hkd]; decide), if_neg (by rw [hkd]; decide), if_neg (by rw [hkd]; decide), if_pos hkd]
        rw [eP] at hf
        have HE : Hid _ := eP
        have HC9 := rmovF X5.pp.dn ful (by omega) (n3 : Int) (n2 : Int)
        have H9 : Hid (∀ tag9 W9 q9 A9, Dn tag9 W9 d q9 A9 → Dv tag1 U5 tag9 W9 → (Py.mk A9 q9 s.M).Fit (k + 1) → Rn tag w b d k ⟨A9, q9, s.M⟩ W9) := fun tag9 W9 q9 A9 d9 m9 f9 => X5.fin v5 d9 m9 f9
        clear X5 v5 HC eP
        go_wp2_with (go_at_call 58; refine HC9.mono ?_; rintro e W9 ⟨rfl, tag9, d9, m9⟩)
        go_ret
        rw [HE.out]
        exact ⟨rfl, H9.out _ _ _ _ d9 m9 hf⟩
      · rw [hkd] at f0
        have eP : s.perF o n1 n2 n3 = s.upd (s.A.morF (n1 : Int) (fun x => more x o.al)) := by unfold Py.perF; rw [if_neg (by rw [hkd]; decide), if_neg (by rw [hkd]; decide), if_neg (by rw [hkd]; decide), if_neg (by rw [hkd]; decide), if_neg (by rw [hkd]; decide), if_neg (by rw [hkd]; decide), if_neg (by rw [hkd]; decide), if_neg (by rw [hkd]; decide), if_neg (by rw [hkd]; decide), if_pos hkd]
        rw [eP] at hf
        have HE : Hid _ := eP
        have HC9 : Hid (∀ V, Kp [] U5 V → Calls Tryz.prog 59 #[.pointer (some ⟨d, 0, none⟩), .int .i64 (n1 : Int), .slice p.1 p.2.1 p.2.2] V fun e w' => e = .returned (.int .i64 (s.A.morF (n1 : Int) (fun x => more x o.al)).2) ∧ ∃ tag', Dn tag' w' d s.q (s.A.morF (n1 : Int) (fun x => more x o.al)).1 ∧ Dv tag1 V tag' w') := fun V kV => by
          have Z := X5.kept kV
          exact rmore_any Z.pp.dn hb1 (n1 : Int) o.al p.1 p.2.1 p.2.2 Z.rk.rp (by have := ho.al; have := Z.rk.rp.len; omega) hb3
        have HS9 : Hid (∀ V, Kp [] U5 V → V.cell? ⟨b, 0, none⟩ = some (.pointer (some ⟨d, 0, none⟩)) ∧ V.cell? ⟨g, 7, none⟩ = some (.slice p.1 p.2.1 p.2.2)) := fun V kV => ⟨(X5.pp.kept kV).head.1, (X5.bx.kept kV (by simp)).cell 7⟩
        have H9 : Hid (∀ V tag9 W9, Kp [] U5 V → Dn tag9 W9 d s.q (s.A.morF (n1 : Int) (fun x => more x o.al)).1 → Dv tag1 V tag9 W9 → (W9.cell? ⟨b, 0, none⟩ = some (.pointer (some ⟨d, 0, none⟩)) ∧ W9.cell? ⟨g, 7, none⟩ = some (.slice p.1 p.2.1 p.2.2)) ∧ Rn tag w b d k (s.upd (s.A.morF (n1 : Int) (fun x => more x o.al))).1 W9) := fun V tag9 W9 kV d9 m9 => by
          have Z := X5.kept kV
          exact ⟨⟨(Z.pp.dv m9 d9 hf).head.1, (Z.bx.qv Z.t0 m9.qv).cell 7⟩, Z.fin (v5.trans (Qv.of_kp0 kV)) d9 m9 hf⟩
        clear X5 v5 HC eP hf
        go_upto_region 44 with fail
        refine wp_region_g (S := fun V => V.cell? ⟨b, 0, none⟩ = some (.pointer (some ⟨d, 0, none⟩)) ∧ V.cell? ⟨g, 7, none⟩ = some (.slice p.1 p.2.1 p.2.2)) (T := []) (by kernel_rfl) (HS9.out _ (Kp.refl _ _).drew) (fun hHeld => ?_)
        refine g_pure 0 (some 240) (.move (.tmp 0)) ?_
        refine g_pure 1 (some 241) (.nilCheck (.tmp 240)) ?_
        refine g_pure 2 (some 242) (.fieldAddr 104 (.tmp 241) 0) ?_
        refine g_take 3 (some 243) (.load 63 (.tmp 242)) (by intro w hSw; (obtain ⟨q0, q1⟩ := hSw); go_simp; try with_reducible rfl) ?_
        refine g_pure 4 (some 244) (.move (.tmp 7)) ?_
        refine g_pure 5 (some 245) (.fieldAddr 24 (.tmp 3) 7) ?_
        refine g_take 6 (some 246) (.load 22 (.tmp 245)) (by intro w hSw; (obtain ⟨q0, q1⟩ := hSw); go_simp; try with_reducible rfl) ?_
        refine wpAnyG_ready (rs := [7]) (by kernel_rfl) (by simp) ?_
        refine AllReadyG.cons (o := ⟨some 247, .call { callee := .value (.func 59), args := #[.tmp 243, .tmp 244, .tmp 246], argTypes := #[63, 3, 22] }, 3, _, _, none⟩) rfl (fun K hK => ?_) AllReadyG.nil
        go_simp
        go_at_call 59
        refine (HC9.out _ (Kp.refl _ _).drew).mono ?_
        rintro e W9 ⟨rfl, tag9, d9, m9⟩
        go_wp2_with fail
        have Y9 := H9.out _ _ _ (Kp.refl _ _).drew d9 m9
        refine hK.out _ _ Y9.1 (fun hHeld1 => ?_)
        clear hK K hHeld
        try simp only [Act.put, pu1, pu2, pu3]
        refine g_pure 8 (some 4) (.assign (.tmp 247)) ?_
        refine wpAnyG_free (by kernel_rfl) ?_
        refine wpAny_done (by kernel_rfl) ?_ _
        have Y3 : Hid _ := Y9.2
        clear HC9 HS9 H9 Y9 hHeld1 d9 m9
        go_wp2
        go_ret
        rw [HE.out]
        exact ⟨rfl, Y3.out⟩
      · rw [hkd] at f0
        have eP : s.perF o n1 n2 n3 = (⟨s.A, true, s.M⟩, 0) := by unfold Py.perF; rw [if_neg (by rw [hkd]; decide), if_neg (by rw [hkd]; decide), if_neg (by rw [hkd]; decide), if_neg (by rw [hkd]; decide), if_neg (by rw [hkd]; decide), if_neg (by rw [hkd]; decide), if_neg (by rw [hkd]; decide), if_neg (by rw [hkd]; decide), if_neg (by rw [hkd]; decide), if_neg (by rw [hkd]; decide), if_pos hkd]
        rw [eP] at hf
        have HE : Hid _ := eP
        obtain ⟨d9, m9⟩ := X5.pp.dn.quirk true
        have H9 : Hid _ := X5.fin v5 d9 m9 hf
        obtain ⟨g5, o5, c5, pl5, D5⟩ := X5.pp.dn
        have e1 := D5.head.2
        have fr := D5.hd.free 1
        clear X5 v5 HC eP D5 d9 m9 hf
        go_wp2
        go_ret
        rw [HE.out]
        exact ⟨rfl, H9.out⟩

end

end Go.Proofs.YtpkppobkagdhkaaGreat
