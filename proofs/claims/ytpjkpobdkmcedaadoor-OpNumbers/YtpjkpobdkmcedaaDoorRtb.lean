/-
  The program's Same, named, Right.
-/
import Derived.Test.YtpjkpobdkmcedaaDoorRts
namespace Go.Proofs.YtpjkpobdkmcedaaDoor
open Go.RowKit
set_option linter.unusedVariables false
set_option linter.unusedSimpArgs false

set_option maxRecDepth 100000 in
set_option maxHeartbeats 1000000 in
theorem osame_any (w : World) (a b : Ot) (p q : Sl) (h1 : At w (a, p)) (h2 : At w (b, q)) (hl : p.2.1 ≤ 100000) (hm : q.2.1 ≤ 100000) :
    Calls Tryd.prog 12 #[ov a p, ov b q] w fun e w' => e = .returned (.bool (sameO a b)) ∧ Kp [] w w' := by
  obtain ⟨a1, a2, a3, a4, a5, a6, a7, a8, a9⟩ := a
  obtain ⟨b1, b2, b3, b4, b5, b6, b7, b8, b9⟩ := b
  obtain ⟨p1, p2, p3⟩ := p
  obtain ⟨q1, q2, q3⟩ := q
  have k0 : Kp [] w ((w.alloc (.cells (oc ⟨a1, a2, a3, a4, a5, a6, a7, a8, a9⟩ (p1, p2, p3)) 24)).alloc (.cells (oc ⟨b1, b2, b3, b4, b5, b6, b7, b8, b9⟩ (q1, q2, q3)) 24)) := ((Kp.refl _ _).alloc _).alloc _
  have HC := equal_any _ _ _ _ _ _ _ _ _ (Rp.kept h1 k0) (Rp.kept h2 k0) hl hm
  clear h1 h2
  simp only [oc, ov] at HC k0 ⊢
  obtain ⟨A, hA⟩ : ∃ A, sameO ⟨a1, a2, a3, a4, a5, a6, a7, a8, a9⟩ ⟨b1, b2, b3, b4, b5, b6, b7, b8, b9⟩ = A := ⟨_, rfl⟩
  rw [hA]
  simp only [sameO, eqs] at hA
  cases c0 : (a1 == b1)
  · simp only [c0, Bool.true_and, Bool.false_and] at hA
    subst hA
    clear HC
    go_enter Tryd.func12, Tryd.ntmps12
    go_wp2
    go_ret
    exact ⟨rfl, k0⟩
  cases c1 : (a2 == b2)
  · simp only [c0, c1, Bool.true_and, Bool.false_and] at hA
    subst hA
    clear HC
    go_enter Tryd.func12, Tryd.ntmps12
    go_wp2
    go_ret
    exact ⟨rfl, k0⟩
  cases c2 : (a3 == b3)
  · simp only [c0, c1, c2, Bool.true_and, Bool.false_and] at hA
    subst hA
    clear HC
    go_enter Tryd.func12, Tryd.ntmps12
    go_wp2
    go_ret
    exact ⟨rfl, k0⟩
  cases c3 : (a4 == b4)
  · simp only [c0, c1, c2, c3, Bool.true_and, Bool.false_and] at hA
    subst hA
    clear HC
    go_enter Tryd.func12, Tryd.ntmps12
    go_wp2
    go_ret
    exact ⟨rfl, k0⟩
  cases c4 : (a5 == b5)
  · simp only [c0, c1, c2, c3, c4, Bool.true_and, Bool.false_and] at hA
    subst hA
    clear HC
    go_enter Tryd.func12, Tryd.ntmps12
    go_wp2
    go_ret
    exact ⟨rfl, k0⟩
  cases c5 : (a6 == b6)
  · simp only [c0, c1, c2, c3, c4, c5, Bool.true_and, Bool.false_and] at hA
    subst hA
    clear HC
    go_enter Tryd.func12, Tryd.ntmps12
    go_wp2
    go_ret
    exact ⟨rfl, k0⟩
  cases c6 : (a7.toList == b7.toList)
  · simp only [c0, c1, c2, c3, c4, c5, c6, Bool.true_and, Bool.false_and] at hA
    subst hA
    clear HC
    go_enter Tryd.func12, Tryd.ntmps12
    go_wp2
    go_ret
    exact ⟨rfl, k0⟩
  cases c7 : (a9.toList == b9.toList)
  · simp only [c0, c1, c2, c3, c4, c5, c6, c7, Bool.true_and, Bool.false_and] at hA
    subst hA
    clear HC
    go_enter Tryd.func12, Tryd.ntmps12
    go_wp2
    go_ret
    exact ⟨rfl, k0⟩
  simp only [c0, c1, c2, c3, c4, c5, c6, c7, Bool.true_and] at hA
  subst hA
  go_enter Tryd.func12, Tryd.ntmps12
  go_wp2_with (go_at_call 33; refine HC.mono ?_; rintro e w1 ⟨rfl, k1⟩)
  go_ret
  exact ⟨rfl, k0.trans k1 (fun x hx => Or.inl hx)⟩

end Go.Proofs.YtpjkpobdkmcedaaDoor
