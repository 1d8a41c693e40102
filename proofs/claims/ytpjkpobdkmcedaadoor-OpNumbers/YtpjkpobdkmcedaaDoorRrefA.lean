/-
  The document's Right.
-/
import Derived.Test.YtpjkpobdkmcedaaDoorZero
namespace Go.Proofs.YtpjkpobdkmcedaaDoor
open Go.RowKit
set_option linter.unusedVariables false
set_option linter.unusedSimpArgs false

/-- The first k of three numbers are in their range. -/
def inK (a b c : Int) (k : Nat) : Prop := (0 < k → inR a = true) ∧ (1 < k → inR b = true) ∧ (2 < k → inR c = true)

theorem inR_no {n : Int} (h : inR n = false) : n < 0 ∨ (0 ≤ n ∧ 2147483647 < n) := by
  unfold inR at h
  simp at h
  omega

theorem inR_yes {n : Int} (h : inR n = true) : 0 ≤ n ∧ n ≤ 2147483647 := by
  unfold inR at h
  simpa using h

set_option maxRecDepth 100000 in
set_option maxHeartbeats 2000000 in
theorem rref_1 (w : World) (a2 a3 a4 a5 a6 : Int) (a7 : ByteArray) (a8 : List Att) (a9 : ByteArray) (p1 : Option Addr) (p2 p3 : Nat) (hq : p2 = a8.length) (hb : p2 ≤ 100000) :
    Calls Tryd.prog 9 #[ov ⟨1, a2, a3, a4, a5, a6, a7, a8, a9⟩ (p1, p2, p3)] w fun e w' => e = .returned (.bool (rightO ⟨1, a2, a3, a4, a5, a6, a7, a8, a9⟩)) ∧ Kp [] w w' := by
  obtain ⟨A, hA0⟩ : ∃ A, rightO ⟨1, a2, a3, a4, a5, a6, a7, a8, a9⟩ = A := ⟨_, rfl⟩
  rw [hA0]
  have hA : Hid (rightO ⟨1, a2, a3, a4, a5, a6, a7, a8, a9⟩ = A) := hA0
  clear hA0
  have hk : Kp [] w ((w.alloc (.cells #[.int .i64 1, .int .i64 a2, .int .i64 a3, .int .i64 a4, .int .i64 a5, .int .i64 a6, .string a7, .slice p1 p2 p3, .string a9] 24)).alloc (.cells #[.int .i64 a2, .int .i64 a3, .int .i64 a4] 3)) := ((Kp.refl _ _).alloc _).alloc _
  clear hq hb
  simp only [ov]
  go_enter Tryd.func9, Tryd.ntmps9
  go_wp2
  go_loopw [13] (fun i wr => ∃ k : Nat, k ≤ 3 ∧ i = .int .i64 k ∧ wr = ((w.alloc (.cells #[.int .i64 1, .int .i64 a2, .int .i64 a3, .int .i64 a4, .int .i64 a5, .int .i64 a6, .string a7, .slice p1 p2 p3, .string a9] 24)).alloc (.cells #[.int .i64 a2, .int .i64 a3, .int .i64 a4] 3)) ∧ inK a2 a3 a4 k) (fun i _ => 3 - (intOf i).toNat)
  case atStart => exact ⟨0, by omega, rfl, rfl, fun h => by omega, fun h => by omega, fun h => by omega⟩
  case round =>
    obtain ⟨k, hk3, rfl, rfl, i1, i2, i3⟩ := hrel
    obtain rfl | rfl | rfl | rfl : k = 0 ∨ k = 1 ∨ k = 2 ∨ k = 3 := by omega
    · cases c : inR a2
      · have hA2 := hA.out
        rw [show rightO ⟨1, a2, a3, a4, a5, a6, a7, a8, a9⟩ = false by simp [rightO, c]] at hA2
        subst hA2
        clear hA i1 i2 i3
        rcases inR_no c with c1 | ⟨c1, c2⟩
        · clear c
          go_wp2
          go_ret
          exact ⟨rfl, hk⟩
        · clear c
          go_wp2
          go_ret
          exact ⟨rfl, hk⟩
      · have II : Hid (inK a2 a3 a4 1) := ⟨fun _ => c, fun _ => absurd ‹_› (by omega), fun _ => absurd ‹_› (by omega)⟩
        obtain ⟨c1, c2⟩ := inR_yes c
        clear c i1 i2 i3 hA hk
        go_wp2
        go_roundw
        case rel => exact ⟨1, by omega, by first | rfl | go_num, by trivial, II.out⟩
        case measure => simp [intOf]
    · cases c : inR a3
      · have hA2 := hA.out
        rw [show rightO ⟨1, a2, a3, a4, a5, a6, a7, a8, a9⟩ = false by simp [rightO, c]] at hA2
        subst hA2
        clear hA i1 i2 i3
        rcases inR_no c with c1 | ⟨c1, c2⟩
        · clear c
          go_wp2
          go_ret
          exact ⟨rfl, hk⟩
        · clear c
          go_wp2
          go_ret
          exact ⟨rfl, hk⟩
      · have II : Hid (inK a2 a3 a4 2) := ⟨fun _ => i1 (by omega), fun _ => c, fun _ => absurd ‹_› (by omega)⟩
        obtain ⟨c1, c2⟩ := inR_yes c
        clear c i1 i2 i3 hA hk
        go_wp2
        go_roundw
        case rel => exact ⟨2, by omega, by first | rfl | go_num, by trivial, II.out⟩
        case measure => simp [intOf]
    · cases c : inR a4
      · have hA2 := hA.out
        rw [show rightO ⟨1, a2, a3, a4, a5, a6, a7, a8, a9⟩ = false by simp [rightO, c]] at hA2
        subst hA2
        clear hA i1 i2 i3
        rcases inR_no c with c1 | ⟨c1, c2⟩
        · clear c
          go_wp2
          go_ret
          exact ⟨rfl, hk⟩
        · clear c
          go_wp2
          go_ret
          exact ⟨rfl, hk⟩
      · have II : Hid (inK a2 a3 a4 3) := ⟨fun _ => i1 (by omega), fun _ => i2 (by omega), fun _ => c⟩
        obtain ⟨c1, c2⟩ := inR_yes c
        clear c i1 i2 i3 hA hk
        go_wp2
        go_roundw
        case rel => exact ⟨3, by omega, by first | rfl | go_num, by trivial, II.out⟩
        case measure => simp [intOf]
    · have q1 := i1 (by omega)
      have q2 := i2 (by omega)
      have q3 := i3 (by omega)
      clear i1 i2 i3
      by_cases s1 : 0 ≤ a6
      · by_cases s2 : a6 ≤ 2
        · have hA2 := hA.out
          rw [show rightO ⟨1, a2, a3, a4, a5, a6, a7, a8, a9⟩ = (mk3 a5 && ((a3 == 0) && (a4 == 0))) by simp [rightO, rightK, q1, q2, q3, s1, s2]] at hA2
          clear hA q1 q2 q3
          simp only [mk3] at hA2
          cases t1 : (a5 == 2)
          · cases t2 : (a5 == 3)
            · cases t3 : (a5 == 5)
              · skip
                simp only [t1, t2, t3, Bool.true_or, Bool.false_or, Bool.or_true, Bool.or_false, Bool.true_and, Bool.false_and, Bool.and_true, Bool.and_false] at hA2
                subst hA2
                go_wp2
                go_ret
                exact ⟨rfl, hk⟩
              · skip
                cases t4 : (a3 == 0)
                · skip
                  simp only [t1, t2, t3, t4, Bool.true_or, Bool.false_or, Bool.or_true, Bool.or_false, Bool.true_and, Bool.false_and, Bool.and_true, Bool.and_false] at hA2
                  subst hA2
                  go_wp2
                  go_ret
                  exact ⟨rfl, hk⟩
                · cases t5 : (a4 == 0)
                  · skip
                    simp only [t1, t2, t3, t4, t5, Bool.true_or, Bool.false_or, Bool.or_true, Bool.or_false, Bool.true_and, Bool.false_and, Bool.and_true, Bool.and_false] at hA2
                    subst hA2
                    go_wp2
                    go_ret
                    exact ⟨rfl, hk⟩
                  · skip
                    simp only [t1, t2, t3, t4, t5, Bool.true_or, Bool.false_or, Bool.or_true, Bool.or_false, Bool.true_and, Bool.false_and, Bool.and_true, Bool.and_false] at hA2
                    subst hA2
                    go_wp2
                    go_ret
                    exact ⟨rfl, hk⟩
            · skip
              cases t4 : (a3 == 0)
              · skip
                simp only [t1, t2, t4, Bool.true_or, Bool.false_or, Bool.or_true, Bool.or_false, Bool.true_and, Bool.false_and, Bool.and_true, Bool.and_false] at hA2
                subst hA2
                go_wp2
                go_ret
                exact ⟨rfl, hk⟩
              · cases t5 : (a4 == 0)
                · skip
                  simp only [t1, t2, t4, t5, Bool.true_or, Bool.false_or, Bool.or_true, Bool.or_false, Bool.true_and, Bool.false_and, Bool.and_true, Bool.and_false] at hA2
                  subst hA2
                  go_wp2
                  go_ret
                  exact ⟨rfl, hk⟩
                · skip
                  simp only [t1, t2, t4, t5, Bool.true_or, Bool.false_or, Bool.or_true, Bool.or_false, Bool.true_and, Bool.false_and, Bool.and_true, Bool.and_false] at hA2
                  subst hA2
                  go_wp2
                  go_ret
                  exact ⟨rfl, hk⟩
          · skip
            cases t4 : (a3 == 0)
            · skip
              simp only [t1, t4, Bool.true_or, Bool.false_or, Bool.or_true, Bool.or_false, Bool.true_and, Bool.false_and, Bool.and_true, Bool.and_false] at hA2
              subst hA2
              go_wp2
              go_ret
              exact ⟨rfl, hk⟩
            · cases t5 : (a4 == 0)
              · skip
                simp only [t1, t4, t5, Bool.true_or, Bool.false_or, Bool.or_true, Bool.or_false, Bool.true_and, Bool.false_and, Bool.and_true, Bool.and_false] at hA2
                subst hA2
                go_wp2
                go_ret
                exact ⟨rfl, hk⟩
              · skip
                simp only [t1, t4, t5, Bool.true_or, Bool.false_or, Bool.or_true, Bool.or_false, Bool.true_and, Bool.false_and, Bool.and_true, Bool.and_false] at hA2
                subst hA2
                go_wp2
                go_ret
                exact ⟨rfl, hk⟩
        · have hA2 := hA.out
          rw [show rightO ⟨1, a2, a3, a4, a5, a6, a7, a8, a9⟩ = false by simp [rightO, s2]] at hA2
          subst hA2
          clear hA q1 q2 q3
          go_wp2
          go_ret
          exact ⟨rfl, hk⟩
      · have hA2 := hA.out
        rw [show rightO ⟨1, a2, a3, a4, a5, a6, a7, a8, a9⟩ = false by simp [rightO, s1]] at hA2
        subst hA2
        clear hA q1 q2 q3
        go_wp2
        go_ret
        exact ⟨rfl, hk⟩

end Go.Proofs.YtpjkpobdkmcedaaDoor
