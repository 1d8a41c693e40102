/-
  Joined: Plo.
-/
import Derived.Test.YtpkppobkagdhkaaJ45

/-
  The program's player: Do.
-/
namespace Go.Proofs.Ytpkppobkagdhkaa
open Go.RowKit Go.Maps Utf
set_option linter.unusedVariables false
set_option linter.unusedSimpArgs false

/-- What is right has numbers that are in their range, and a Kind. -/
theorem right_of {o : Ot} (h : rightO o = true) : (0 ≤ o.nd ∧ o.nd ≤ 2147483647) ∧ (0 ≤ o.pa ∧ o.pa ≤ 2147483647) ∧ (0 ≤ o.rf ∧ o.rf ≤ 2147483647) ∧ 1 ≤ o.kd ∧ o.kd ≤ 11 := by
  unfold rightO inR at h
  simp only [Bool.and_eq_true, decide_eq_true_eq] at h
  obtain ⟨⟨h1, h2, h3⟩, _, hk⟩ := h
  refine ⟨h1, h2, h3, ?_⟩
  by_cases hc : 1 ≤ o.kd ∧ o.kd ≤ 11
  · exact hc
  · unfold rightK at hk
    repeat rw [if_neg (by omega)] at hk
    cases hk

section
variable {tag tag' : Nat → Nat} {w w' : World} {b a m k g : Nat} {s : Py} {o : Ot} {p : Sl}

set_option maxRecDepth 100000 in
set_option maxHeartbeats 2000000 in
theorem pdo_any (h : Pp tag w b a m s k) (hk : k < 1300) (ho : tinyO o) (hr : R0 tag w p o.al) :
    Calls Try.prog 9 #[.pointer (some ⟨b, 0, none⟩), ov o p] w fun e w' => e = .returned (.int .i64 (s.doF o).2) ∧ ∃ tag', Pp tag' w' b a m (s.doF o).1 (k + 1) ∧ Pv tag w tag' w' := by
  obtain ⟨tag1, W1, g, hg, HW, X, pv1⟩ := Px.open (o := o) h hr
  have hl6 := ho.al
  have hpl : p.2.1 = o.al.length := hr.rp.len
  have HR := right_any W1 o p X.rk.rp (by omega)
  obtain ⟨R, hR⟩ : ∃ R, s.doF o = R := ⟨_, rfl⟩
  rw [hR]
  have hu0 := nine_at X.bx
  cases hq : rightO o with
  | false =>
    rw [hq] at HR
    have hR2 : Hid (R = (s, 12)) := by
      rw [← hR]
      unfold Py.doF
      rw [if_pos hq]
      exact rfl
    have H9 : Hid (∀ W2, Kp [] W1 W2 → ∃ tag', Pp tag' W2 b a m s (k + 1) ∧ Pv tag w tag' W2) := fun W2 kV => ⟨tag1, (X.pp.kept kV).up hk, pv1.trans (Pv.of_kp0 kV)⟩
    obtain ⟨f0, f1, f2, f3, f4, f5, f6, f7, f8⟩ := hu0
    clear h hr X pv1 hR hq hpl
    unfold ov at HR ⊢
    go_enter Try.func9, Try.ntmps9
    go_upto_region 1 with fail
    rw [HW.out]
    clear HW
    go_wp2_with (go_at_call 17; refine HR.mono ?_; rintro e W2 ⟨rfl, k2⟩)
    go_ret
    rw [hR2.out]
    exact ⟨rfl, H9.out _ k2⟩
  | true =>
    rw [hq] at HR
    obtain ⟨⟨r1, r2⟩, ⟨r3, r4⟩, ⟨r5, r6⟩, r7, r8⟩ := right_of hq
    have w1 : wf64 o.nd := wf_of (by omega) (by omega)
    have w2 : wf64 o.pa := wf_of (by omega) (by omega)
    have w3 : wf64 o.rf := wf_of (by omega) (by omega)
    have hrf := h.fit.nz_lt o.rf
    have HK : Hid (∀ V, Kp [] W1 V → Px tag1 V b a m s k g o p ∧ Pv tag w tag1 V) := fun V kV => ⟨X.kept kV, pv1.trans (Pv.of_kp0 kV)⟩
    have hR2 : Hid (R = if (Py.isN o.kd && s.kn o.nd) = true then (s, 24) else if (((!Py.isN o.kd && !s.kn o.nd) || !s.kn o.pa) || !s.kn o.rf) = true then (s, 22) else s.perF o (s.nz o.nd) (s.nz o.pa) (s.nz o.rf)) := by
      rw [← hR]
      unfold Py.doF
      rw [if_neg (by rw [hq]; simp)]
      exact rfl
    have HL : Hid (∀ V, Kp [] W1 V → ∀ x : Int, wf64 x → (Instr.lookup 41 (.map (some m)) (.int .i64 x) true).run Try.prog V = .ok (.tuple #[.int .i64 ((s.nz x : Nat) : Int), .bool (s.kn x)]) V) := fun V kV x hx => (X.pp.kept kV).nb.look hx
    have HC : Hid (∀ V, Kp [] W1 V → V.cell? ⟨b, 1, none⟩ = some (.map (some m)) ∧ Nine V g 0 o p) := fun V kV => ⟨(X.pp.kept kV).head.2, nine_at (X.bx.kept kV (by simp))⟩
    obtain ⟨f0, f1, f2, f3, f4, f5, f6, f7, f8⟩ := hu0
    clear h hr X pv1 hR hpl
    unfold ov at HR ⊢
    go_enter Try.func9, Try.ntmps9
    go_upto_region 1 with fail
    rw [HW.out]
    clear HW
    go_upto_region 3 with (go_at_call 17; refine HR.mono ?_; rintro e W2 ⟨rfl, k2⟩)
    clear HR f0 f1 f2 f3 f4 f5 f6 f7 f8
    obtain ⟨W3, hW3⟩ : ∃ W, W = W2.drew := ⟨_, rfl⟩
    have k3 : Kp [] W1 W3 := by rw [hW3]; exact k2.drew
    have hS3 : (fun V => V.cell? ⟨b, 1, none⟩ = some (.map (some m)) ∧ V.cell? ⟨g, 1, none⟩ = some (.int .i64 o.nd) ∧ (Instr.lookup 41 (.map (some m)) (.int .i64 o.nd) true).run Try.prog V = .ok (.tuple #[.int .i64 ((s.nz o.nd : Nat) : Int), .bool (s.kn o.nd)]) V) W3 := ⟨(HC.out _ k3).1, (HC.out _ k3).2.2.1, HL.out _ k3 _ w1⟩
    refine wp_region_g (S := fun V => V.cell? ⟨b, 1, none⟩ = some (.map (some m)) ∧ V.cell? ⟨g, 1, none⟩ = some (.int .i64 o.nd) ∧ (Instr.lookup 41 (.map (some m)) (.int .i64 o.nd) true).run Try.prog V = .ok (.tuple #[.int .i64 ((s.nz o.nd : Nat) : Int), .bool (s.kn o.nd)]) V) (T := []) (by kernel_rfl) (by rw [← hW3]; exact hS3) (fun hHeld => ?_)
    rw [← hW3] at hHeld ⊢
    clear hW3 hS3
    refine g_pure 0 (some 16) (.move (.tmp 0)) ?_
    refine g_pure 1 (some 17) (.nilCheck (.tmp 16)) ?_
    refine g_pure 2 (some 18) (.fieldAddr 43 (.tmp 17) 1) ?_
    refine g_take 3 (some 19) (.load 41 (.tmp 18)) (by intro w hSw; (obtain ⟨q0, q1, q2⟩ := hSw); go_simp; try with_reducible rfl) ?_
    refine g_pure 4 (some 20) (.fieldAddr 25 (.tmp 3) 1) ?_
    refine g_take 5 (some 21) (.load 3 (.tmp 20)) (by intro w hSw; (obtain ⟨q0, q1, q2⟩ := hSw); go_simp; try with_reducible rfl) ?_
    refine g_take 6 (some 22) (.lookup 41 (.tmp 19) (.tmp 21) true) (by intro w hSw; (obtain ⟨q0, q1, q2⟩ := hSw); go_simp; try with_reducible rfl) ?_
    refine g_pure 7 (some 15) (.move (.tmp 22)) ?_
    refine g_pure 8 (some 23) (.extract (.tmp 15) 0) ?_
    refine g_pure 9 (some 24) (.extract (.tmp 15) 1) ?_
    refine g_pure 10 (some 5) (.assign (.tmp 23)) ?_
    refine g_pure 11 (some 6) (.assign (.tmp 24)) ?_
    refine wpAnyG_free (by kernel_rfl) ?_
    refine wpAny_done (by kernel_rfl) ?_ _
    clear hHeld
    go_upto_region 4 with fail
    obtain ⟨W4, hW4⟩ : ∃ W, W = W3.drew := ⟨_, rfl⟩
    have k4 : Kp [] W1 W4 := by rw [hW4]; exact k3.drew
    have hS4 : (fun V => V.cell? ⟨b, 1, none⟩ = some (.map (some m)) ∧ V.cell? ⟨g, 2, none⟩ = some (.int .i64 o.pa) ∧ (Instr.lookup 41 (.map (some m)) (.int .i64 o.pa) true).run Try.prog V = .ok (.tuple #[.int .i64 ((s.nz o.pa : Nat) : Int), .bool (s.kn o.pa)]) V) W4 := ⟨(HC.out _ k4).1, (HC.out _ k4).2.2.2.1, HL.out _ k4 _ w2⟩
    refine wp_region_g (S := fun V => V.cell? ⟨b, 1, none⟩ = some (.map (some m)) ∧ V.cell? ⟨g, 2, none⟩ = some (.int .i64 o.pa) ∧ (Instr.lookup 41 (.map (some m)) (.int .i64 o.pa) true).run Try.prog V = .ok (.tuple #[.int .i64 ((s.nz o.pa : Nat) : Int), .bool (s.kn o.pa)]) V) (T := []) (by kernel_rfl) (by rw [← hW4]; exact hS4) (fun hHeld => ?_)
    rw [← hW4] at hHeld ⊢
    clear hW4 hS4
    refine g_pure 0 (some 26) (.move (.tmp 0)) ?_
    refine g_pure 1 (some 27) (.nilCheck (.tmp 26)) ?_
    refine g_pure 2 (some 28) (.fieldAddr 43 (.tmp 27) 1) ?_
    refine g_take 3 (some 29) (.load 41 (.tmp 28)) (by intro w hSw; (obtain ⟨q0, q1, q2⟩ := hSw); go_simp; try with_reducible rfl) ?_
    refine g_pure 4 (some 30) (.fieldAddr 25 (.tmp 3) 2) ?_
    refine g_take 5 (some 31) (.load 3 (.tmp 30)) (by intro w hSw; (obtain ⟨q0, q1, q2⟩ := hSw); go_simp; try with_reducible rfl) ?_
    refine g_take 6 (some 32) (.lookup 41 (.tmp 29) (.tmp 31) true) (by intro w hSw; (obtain ⟨q0, q1, q2⟩ := hSw); go_simp; try with_reducible rfl) ?_
    refine g_pure 7 (some 25) (.move (.tmp 32)) ?_
    refine g_pure 8 (some 33) (.extract (.tmp 25) 0) ?_
    refine g_pure 9 (some 34) (.extract (.tmp 25) 1) ?_
    refine g_pure 10 (some 7) (.assign (.tmp 33)) ?_
    refine g_pure 11 (some 8) (.assign (.tmp 34)) ?_
    refine wpAnyG_free (by kernel_rfl) ?_
    refine wpAny_done (by kernel_rfl) ?_ _
    clear hHeld
    go_upto_region 5 with fail
    obtain ⟨W5, hW5⟩ : ∃ W, W = W4.drew := ⟨_, rfl⟩
    have k5 : Kp [] W1 W5 := by rw [hW5]; exact k4.drew
    have hS5 : (fun V => V.cell? ⟨b, 1, none⟩ = some (.map (some m)) ∧ V.cell? ⟨g, 3, none⟩ = some (.int .i64 o.rf) ∧ (Instr.lookup 41 (.map (some m)) (.int .i64 o.rf) true).run Try.prog V = .ok (.tuple #[.int .i64 ((s.nz o.rf : Nat) : Int), .bool (s.kn o.rf)]) V) W5 := ⟨(HC.out _ k5).1, (HC.out _ k5).2.2.2.2.1, HL.out _ k5 _ w3⟩
    refine wp_region_g (S := fun V => V.cell? ⟨b, 1, none⟩ = some (.map (some m)) ∧ V.cell? ⟨g, 3, none⟩ = some (.int .i64 o.rf) ∧ (Instr.lookup 41 (.map (some m)) (.int .i64 o.rf) true).run Try.prog V = .ok (.tuple #[.int .i64 ((s.nz o.rf : Nat) : Int), .bool (s.kn o.rf)]) V) (T := []) (by kernel_rfl) (by rw [← hW5]; exact hS5) (fun hHeld => ?_)
    rw [← hW5] at hHeld ⊢
    clear hW5 hS5
    refine g_pure 0 (some 36) (.move (.tmp 0)) ?_
    refine g_pure 1 (some 37) (.nilCheck (.tmp 36)) ?_
    refine g_pure 2 (some 38) (.fieldAddr 43 (.tmp 37) 1) ?_
    refine g_take 3 (some 39) (.load 41 (.tmp 38)) (by intro w hSw; (obtain ⟨q0, q1, q2⟩ := hSw); go_simp; try with_reducible rfl) ?_
    refine g_pure 4 (some 40) (.fieldAddr 25 (.tmp 3) 3) ?_
    refine g_take 5 (some 41) (.load 3 (.tmp 40)) (by intro w hSw; (obtain ⟨q0, q1, q2⟩ := hSw); go_simp; try with_reducible rfl) ?_
    refine g_take 6 (some 42) (.lookup 41 (.tmp 39) (.tmp 41) true) (by intro w hSw; (obtain ⟨q0, q1, q2⟩ := hSw); go_simp; try with_reducible rfl) ?_
    refine g_pure 7 (some 35) (.move (.tmp 42)) ?_
    refine g_pure 8 (some 43) (.extract (.tmp 35) 0) ?_
    refine g_pure 9 (some 44) (.extract (.tmp 35) 1) ?_
    refine g_pure 10 (some 9) (.assign (.tmp 43)) ?_
    refine g_pure 11 (some 10) (.assign (.tmp 44)) ?_
    refine wpAnyG_free (by kernel_rfl) ?_
    refine wpAny_done (by kernel_rfl) ?_ _
    clear hHeld
    obtain ⟨X5, pv5⟩ := HK.out _ k5
    obtain ⟨f0, f1, f2, f3, f4, f5, f6, f7, f8⟩ := (HC.out _ k5).2
    have HP : Hid ((Py.isN o.kd = true → num s.M o.nd = none) → Calls Try.prog 18 #[.pointer (some ⟨b, 0, none⟩), ov o p, .int .i64 ((s.nz o.nd : Nat) : Int), .int .i64 ((s.nz o.pa : Nat) : Int), .int .i64 ((s.nz o.rf : Nat) : Int)] W5 fun e w' => e = .returned (.int .i64 (s.perF o (s.nz o.nd) (s.nz o.pa) (s.nz o.rf)).2) ∧ ∃ tag', Pp tag' w' b a m (s.perF o (s.nz o.nd) (s.nz o.pa) (s.nz o.rf)).1 (k + 1) ∧ Pv tag w tag' w') := fun hno => by
      refine (perform_any X5.pp hk r7 r8 ho X5.rk _ _ _ hrf w1 hno).mono ?_
      rintro e W9 ⟨rfl, tag9, p9, v9⟩
      exact ⟨rfl, tag9, p9, pv5.trans v9⟩
    have H9 : Hid (∃ tag', Pp tag' W5 b a m s (k + 1) ∧ Pv tag w tag' W5) := ⟨tag1, X5.pp.up hk, pv5⟩
    have hkn : Hid (s.kn o.nd = false → num s.M o.nd = none) := fun e => by
      unfold Py.kn at e
      cases h : num s.M o.nd with
      | none => rfl
      | some y => rw [h] at e; cases e
    clear X5 pv5 HK HC HL hrf w1 w2 w3 k3 k4 k5 k2 ho hl6
    generalize s.nz o.nd = n1 at *
    generalize s.nz o.pa = n2 at *
    generalize s.nz o.rf = n3 at *
    unfold ov at HP
    by_cases hN : o.kd = 1 ∨ o.kd = 9
    · have hi : Py.isN o.kd = true := by unfold Py.isN; rcases hN with e | e <;> rw [e] <;> rfl
      rw [hi] at hR2
      cases b1 : s.kn o.nd with
      | true =>
        rw [b1] at hR2
        have hR3 : Hid (R = (s, 24)) := hR2.out
        clear hR2 HP hi hkn
        rcases hN with e | e
        all_goals
          rw [e] at f0
          go_wp2
          go_ret
          rw [hR3.out]
          exact ⟨rfl, H9.out⟩
      | false =>
        have HP := HP.out (fun _ => hkn.out b1)
        rw [b1] at hR2
        cases b2 : s.kn o.pa with
        | false =>
          rw [b2] at hR2
          have hR3 : Hid (R = (s, 22)) := hR2.out
          clear hR2 HP hi hkn
          rcases hN with e | e
          all_goals
            rw [e] at f0
            go_wp2
            go_ret
            rw [hR3.out]
            exact ⟨rfl, H9.out⟩
        | true =>
          rw [b2] at hR2
          cases b3 : s.kn o.rf with
          | false =>
            rw [b3] at hR2
            have hR3 : Hid (R = (s, 22)) := hR2.out
            clear hR2 HP hi hkn
            rcases hN with e | e
            all_goals
              rw [e] at f0
              go_wp2
              go_ret
              rw [hR3.out]
              exact ⟨rfl, H9.out⟩
          | true =>
            rw [b3] at hR2
            have hR3 : Hid (R = s.perF o n1 n2 n3) := hR2.out
            clear hR2 hi hkn H9
            rcases hN with e | e
            all_goals
              rw [e] at f0 HP
              go_wp2_with (go_at_call 18; refine HP.mono ?_; rintro e W9 ⟨rfl, r9⟩)
              go_ret
              rw [hR3.out]
              exact ⟨rfl, r9⟩
    · have hi : Py.isN o.kd = false := by unfold Py.isN; simp only [Bool.or_eq_false_iff, beq_eq_false_iff_ne]; exact ⟨fun e => hN (.inl e), fun e => hN (.inr e)⟩
      have i1 : (o.kd == 1) = false := by simp; exact fun e => hN (.inl e)
      have i2 : (o.kd == 9) = false := by simp; exact fun e => hN (.inr e)
      have HP := HP.out (fun e => by rw [hi] at e; cases e)
      rw [hi] at hR2
      clear hN hi hkn
      cases b1 : s.kn o.nd with
      | false =>
        rw [b1] at hR2
        have hR3 : Hid (R = (s, 22)) := hR2.out
        clear hR2 HP
        go_wp2
        go_ret
        rw [hR3.out]
        exact ⟨rfl, H9.out⟩
      | true =>
        rw [b1] at hR2
        cases b2 : s.kn o.pa with
        | false =>
          rw [b2] at hR2
          have hR3 : Hid (R = (s, 22)) := hR2.out
          clear hR2 HP
          go_wp2
          go_ret
          rw [hR3.out]
          exact ⟨rfl, H9.out⟩
        | true =>
          rw [b2] at hR2
          cases b3 : s.kn o.rf with
          | false =>
            rw [b3] at hR2
            have hR3 : Hid (R = (s, 22)) := hR2.out
            clear hR2 HP
            go_wp2
            go_ret
            rw [hR3.out]
            exact ⟨rfl, H9.out⟩
          | true =>
            rw [b3] at hR2
            have hR3 : Hid (R = s.perF o n1 n2 n3) := hR2.out
            clear hR2 H9
            go_wp2_with (go_at_call 18; refine HP.mono ?_; rintro e W9 ⟨rfl, r9⟩)
            go_ret
            rw [hR3.out]
            exact ⟨rfl, r9⟩

end

end Go.Proofs.Ytpkppobkagdhkaa
