/-
  Joined: Rtd.
-/
import Derived.Test.YtpkppobkagdhkaaJ19
import Derived.Test.YtpkppobkagdhkaaJ43

/-
  The program's Right.
-/
namespace Go.Proofs.Ytpkppobkagdhkaa
open Go.RowKit
set_option linter.unusedVariables false
set_option linter.unusedSimpArgs false

set_option maxRecDepth 100000 in
set_option maxHeartbeats 2000000 in
theorem right_any (w : World) (o : Ot) (p : Sl) (h : Ap w (o, p)) (hl : p.2.1 ≤ 100000) :
    Calls Try.prog 17 #[ov o p] w fun e w' => e = .returned (.bool (rightO o)) ∧ Kp [] w w' := by
  rw [← prog_right]
  have k0 : Kp [] w (w.alloc (.cells (oc o p) 25)) := (Kp.refl _ _).alloc _
  have HN := named_any (w.alloc (.cells (oc o p) 25)) o p
  have HS : Hid (∀ W, Kp [] w W → Calls Try.prog 23 #[ov o p, ov (onlyO o) (onlyP o p)] W fun e w' => e = .returned (.bool (sameO o (onlyO o))) ∧ Kp [] W w') := fun W k => osame_any W _ _ _ _ (Ap.kept h k) (Ap.kept (only_at h) k) hl (onlyP_le hl)
  have HB : Hid (∀ W, Kp [] (w.alloc (.cells (oc o p) 25)) W → Nine W w.heap.size 0 o p) := fun W k => (nine_of (heap_new w _)).kept k (by simp)
  clear h hl
  generalize onlyO o = x at HN HS ⊢
  generalize onlyP o p = y at HN HS ⊢
  obtain ⟨y1, y2, y3⟩ := y
  obtain ⟨p1, p2, p3⟩ := p
  obtain ⟨o1, o2, o3, o4, o5, o6, o7, o8, o9⟩ := o
  obtain ⟨x1, x2, x3, x4, x5, x6, x7, x8, x9⟩ := x
  have HA : Hid (∀ w1, Kp [] (w.alloc (.cells (oc ⟨o1, o2, o3, o4, o5, o6, o7, o8, o9⟩ (p1, p2, p3)) 25)) w1 → Nine (w1.alloc (.cells (oc ⟨x1, x2, x3, x4, x5, x6, x7, x8, x9⟩ (y1, y2, y3)) 25)) w.heap.size 0 ⟨o1, o2, o3, o4, o5, o6, o7, o8, o9⟩ (p1, p2, p3) ∧ Nine (w1.alloc (.cells (oc ⟨x1, x2, x3, x4, x5, x6, x7, x8, x9⟩ (y1, y2, y3)) 25)) w1.heap.size 0 ⟨x1, x2, x3, x4, x5, x6, x7, x8, x9⟩ (y1, y2, y3) ∧ Kp [] w (w1.alloc (.cells (oc ⟨x1, x2, x3, x4, x5, x6, x7, x8, x9⟩ (y1, y2, y3)) 25))) := fun w1 k1 => ⟨HB.out _ (k1.alloc _), nine_of (heap_new w1 _), (k0.trans k1 (fun z hz => Or.inl hz)).alloc _⟩
  have HB2 : Hid (∀ w1 w2, Kp [] (w.alloc (.cells (oc ⟨o1, o2, o3, o4, o5, o6, o7, o8, o9⟩ (p1, p2, p3)) 25)) w1 → Kp [] (w1.alloc (.cells (oc ⟨x1, x2, x3, x4, x5, x6, x7, x8, x9⟩ (y1, y2, y3)) 25)) w2 → Nine w2 w.heap.size 0 ⟨o1, o2, o3, o4, o5, o6, o7, o8, o9⟩ (p1, p2, p3) ∧ Kp [] w w2) := fun w1 w2 k1 k2 => ⟨HB.out _ ((k1.alloc _).trans k2 (fun z hz => Or.inl hz)), ((k0.trans k1 (fun z hz => Or.inl hz)).alloc _).trans k2 (fun z hz => Or.inl hz)⟩
  clear HB k0
  simp only [oc, ov, Nine] at HN HS HA HB2 ⊢
  generalize sameO ⟨o1, o2, o3, o4, o5, o6, o7, o8, o9⟩ ⟨x1, x2, x3, x4, x5, x6, x7, x8, x9⟩ = S at HS ⊢
  generalize kk o1 = K at HN ⊢
  cases c0 : K
  · skip
    go_enter Try.func17, Try.ntmps17
    go_wp2_with (first | (go_at_call 22; refine HN.mono ?_; rintro e w1 ⟨rfl, k1⟩; obtain ⟨⟨f0, f1, f2, f3, f4, f5, f6, f7, f8⟩, ⟨g0, g1, g2, g3, g4, g5, g6, g7, g8⟩, kz⟩ := HA.out w1 k1) | (go_at_call 24; refine (isnum_any _ _).mono ?_; rintro e w9 ⟨rfl, hw⟩; have hw2 := hw.symm; clear hw; subst hw2) | (go_at_call 25; refine (ismade_any _ _).mono ?_; rintro e w9 ⟨rfl, hw⟩; have hw2 := hw.symm; clear hw; subst hw2))
    go_ret
    exact ⟨by simp [c0], kz⟩
  cases c1 : S
  · skip
    go_enter Try.func17, Try.ntmps17
    go_wp2_with (first | (go_at_call 22; refine HN.mono ?_; rintro e w1 ⟨rfl, k1⟩; obtain ⟨⟨f0, f1, f2, f3, f4, f5, f6, f7, f8⟩, ⟨g0, g1, g2, g3, g4, g5, g6, g7, g8⟩, kz⟩ := HA.out w1 k1) | (go_at_call 23; refine (HS.out _ kz).mono ?_; rintro e w2 ⟨rfl, k2⟩; obtain ⟨⟨l0, l1, l2, l3, l4, l5, l6, l7, l8⟩, ky⟩ := HB2.out w1 w2 k1 k2) | (go_at_call 24; refine (isnum_any _ _).mono ?_; rintro e w9 ⟨rfl, hw⟩; have hw2 := hw.symm; clear hw; subst hw2) | (go_at_call 25; refine (ismade_any _ _).mono ?_; rintro e w9 ⟨rfl, hw⟩; have hw2 := hw.symm; clear hw; subst hw2))
    go_ret
    exact ⟨by simp [c0, c1], ky⟩
  cases c2 : (inR o2)
  · skip
    go_enter Try.func17, Try.ntmps17
    go_wp2_with (first | (go_at_call 22; refine HN.mono ?_; rintro e w1 ⟨rfl, k1⟩; obtain ⟨⟨f0, f1, f2, f3, f4, f5, f6, f7, f8⟩, ⟨g0, g1, g2, g3, g4, g5, g6, g7, g8⟩, kz⟩ := HA.out w1 k1) | (go_at_call 23; refine (HS.out _ kz).mono ?_; rintro e w2 ⟨rfl, k2⟩; obtain ⟨⟨l0, l1, l2, l3, l4, l5, l6, l7, l8⟩, ky⟩ := HB2.out w1 w2 k1 k2) | (go_at_call 24; refine (isnum_any _ _).mono ?_; rintro e w9 ⟨rfl, hw⟩; have hw2 := hw.symm; clear hw; subst hw2) | (go_at_call 25; refine (ismade_any _ _).mono ?_; rintro e w9 ⟨rfl, hw⟩; have hw2 := hw.symm; clear hw; subst hw2))
    go_ret
    exact ⟨by simp [c0, c1, c2], ky⟩
  cases c3 : (inR o3)
  · skip
    go_enter Try.func17, Try.ntmps17
    go_wp2_with (first | (go_at_call 22; refine HN.mono ?_; rintro e w1 ⟨rfl, k1⟩; obtain ⟨⟨f0, f1, f2, f3, f4, f5, f6, f7, f8⟩, ⟨g0, g1, g2, g3, g4, g5, g6, g7, g8⟩, kz⟩ := HA.out w1 k1) | (go_at_call 23; refine (HS.out _ kz).mono ?_; rintro e w2 ⟨rfl, k2⟩; obtain ⟨⟨l0, l1, l2, l3, l4, l5, l6, l7, l8⟩, ky⟩ := HB2.out w1 w2 k1 k2) | (go_at_call 24; refine (isnum_any _ _).mono ?_; rintro e w9 ⟨rfl, hw⟩; have hw2 := hw.symm; clear hw; subst hw2) | (go_at_call 25; refine (ismade_any _ _).mono ?_; rintro e w9 ⟨rfl, hw⟩; have hw2 := hw.symm; clear hw; subst hw2))
    go_ret
    exact ⟨by simp [c0, c1, c2, c3], ky⟩
  cases c4 : (inR o4)
  · skip
    go_enter Try.func17, Try.ntmps17
    go_wp2_with (first | (go_at_call 22; refine HN.mono ?_; rintro e w1 ⟨rfl, k1⟩; obtain ⟨⟨f0, f1, f2, f3, f4, f5, f6, f7, f8⟩, ⟨g0, g1, g2, g3, g4, g5, g6, g7, g8⟩, kz⟩ := HA.out w1 k1) | (go_at_call 23; refine (HS.out _ kz).mono ?_; rintro e w2 ⟨rfl, k2⟩; obtain ⟨⟨l0, l1, l2, l3, l4, l5, l6, l7, l8⟩, ky⟩ := HB2.out w1 w2 k1 k2) | (go_at_call 24; refine (isnum_any _ _).mono ?_; rintro e w9 ⟨rfl, hw⟩; have hw2 := hw.symm; clear hw; subst hw2) | (go_at_call 25; refine (ismade_any _ _).mono ?_; rintro e w9 ⟨rfl, hw⟩; have hw2 := hw.symm; clear hw; subst hw2))
    go_ret
    exact ⟨by simp [c0, c1, c2, c3, c4], ky⟩
  by_cases c5 : 0 ≤ o6
  · skip
    by_cases c6 : o6 ≤ 2
    · skip
      cases c7 : (o1 != 1)
      · skip
        cases c8 : (mk3 o5)
        · skip
          go_enter Try.func17, Try.ntmps17
          go_wp2_with (first | (go_at_call 22; refine HN.mono ?_; rintro e w1 ⟨rfl, k1⟩; obtain ⟨⟨f0, f1, f2, f3, f4, f5, f6, f7, f8⟩, ⟨g0, g1, g2, g3, g4, g5, g6, g7, g8⟩, kz⟩ := HA.out w1 k1) | (go_at_call 23; refine (HS.out _ kz).mono ?_; rintro e w2 ⟨rfl, k2⟩; obtain ⟨⟨l0, l1, l2, l3, l4, l5, l6, l7, l8⟩, ky⟩ := HB2.out w1 w2 k1 k2) | (go_at_call 24; refine (isnum_any _ _).mono ?_; rintro e w9 ⟨rfl, hw⟩; have hw2 := hw.symm; clear hw; subst hw2) | (go_at_call 25; refine (ismade_any _ _).mono ?_; rintro e w9 ⟨rfl, hw⟩; have hw2 := hw.symm; clear hw; subst hw2))
          go_ret
          exact ⟨by simp [c0, c1, c2, c3, c4, c5, c6, c7, c8], ky⟩
        go_enter Try.func17, Try.ntmps17
        go_wp2_with (first | (go_at_call 22; refine HN.mono ?_; rintro e w1 ⟨rfl, k1⟩; obtain ⟨⟨f0, f1, f2, f3, f4, f5, f6, f7, f8⟩, ⟨g0, g1, g2, g3, g4, g5, g6, g7, g8⟩, kz⟩ := HA.out w1 k1) | (go_at_call 23; refine (HS.out _ kz).mono ?_; rintro e w2 ⟨rfl, k2⟩; obtain ⟨⟨l0, l1, l2, l3, l4, l5, l6, l7, l8⟩, ky⟩ := HB2.out w1 w2 k1 k2) | (go_at_call 24; refine (isnum_any _ _).mono ?_; rintro e w9 ⟨rfl, hw⟩; have hw2 := hw.symm; clear hw; subst hw2) | (go_at_call 25; refine (ismade_any _ _).mono ?_; rintro e w9 ⟨rfl, hw⟩; have hw2 := hw.symm; clear hw; subst hw2))
        go_ret
        exact ⟨by simp [c0, c1, c2, c3, c4, c5, c6, c7, c8], ky⟩
      go_enter Try.func17, Try.ntmps17
      go_wp2_with (first | (go_at_call 22; refine HN.mono ?_; rintro e w1 ⟨rfl, k1⟩; obtain ⟨⟨f0, f1, f2, f3, f4, f5, f6, f7, f8⟩, ⟨g0, g1, g2, g3, g4, g5, g6, g7, g8⟩, kz⟩ := HA.out w1 k1) | (go_at_call 23; refine (HS.out _ kz).mono ?_; rintro e w2 ⟨rfl, k2⟩; obtain ⟨⟨l0, l1, l2, l3, l4, l5, l6, l7, l8⟩, ky⟩ := HB2.out w1 w2 k1 k2) | (go_at_call 24; refine (isnum_any _ _).mono ?_; rintro e w9 ⟨rfl, hw⟩; have hw2 := hw.symm; clear hw; subst hw2) | (go_at_call 25; refine (ismade_any _ _).mono ?_; rintro e w9 ⟨rfl, hw⟩; have hw2 := hw.symm; clear hw; subst hw2))
      go_ret
      exact ⟨by simp [c0, c1, c2, c3, c4, c5, c6, c7], ky⟩
    · skip
      go_enter Try.func17, Try.ntmps17
      go_wp2_with (first | (go_at_call 22; refine HN.mono ?_; rintro e w1 ⟨rfl, k1⟩; obtain ⟨⟨f0, f1, f2, f3, f4, f5, f6, f7, f8⟩, ⟨g0, g1, g2, g3, g4, g5, g6, g7, g8⟩, kz⟩ := HA.out w1 k1) | (go_at_call 23; refine (HS.out _ kz).mono ?_; rintro e w2 ⟨rfl, k2⟩; obtain ⟨⟨l0, l1, l2, l3, l4, l5, l6, l7, l8⟩, ky⟩ := HB2.out w1 w2 k1 k2) | (go_at_call 24; refine (isnum_any _ _).mono ?_; rintro e w9 ⟨rfl, hw⟩; have hw2 := hw.symm; clear hw; subst hw2) | (go_at_call 25; refine (ismade_any _ _).mono ?_; rintro e w9 ⟨rfl, hw⟩; have hw2 := hw.symm; clear hw; subst hw2))
      go_ret
      exact ⟨(by simp [c0, c1, c2, c3, c4, c5, c6]; intros; omega), ky⟩
  · skip
    go_enter Try.func17, Try.ntmps17
    go_wp2_with (first | (go_at_call 22; refine HN.mono ?_; rintro e w1 ⟨rfl, k1⟩; obtain ⟨⟨f0, f1, f2, f3, f4, f5, f6, f7, f8⟩, ⟨g0, g1, g2, g3, g4, g5, g6, g7, g8⟩, kz⟩ := HA.out w1 k1) | (go_at_call 23; refine (HS.out _ kz).mono ?_; rintro e w2 ⟨rfl, k2⟩; obtain ⟨⟨l0, l1, l2, l3, l4, l5, l6, l7, l8⟩, ky⟩ := HB2.out w1 w2 k1 k2) | (go_at_call 24; refine (isnum_any _ _).mono ?_; rintro e w9 ⟨rfl, hw⟩; have hw2 := hw.symm; clear hw; subst hw2) | (go_at_call 25; refine (ismade_any _ _).mono ?_; rintro e w9 ⟨rfl, hw⟩; have hw2 := hw.symm; clear hw; subst hw2))
    go_ret
    exact ⟨(by simp [c0, c1, c2, c3, c4, c5]; intros; omega), ky⟩

end Go.Proofs.Ytpkppobkagdhkaa
