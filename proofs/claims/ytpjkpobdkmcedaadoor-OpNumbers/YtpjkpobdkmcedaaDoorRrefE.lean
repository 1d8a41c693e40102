/-
  The document's Right.
-/
import Derived.Test.YtpjkpobdkmcedaaDoorRrefA
namespace Go.Proofs.YtpjkpobdkmcedaaDoor
open Go.RowKit
set_option linter.unusedVariables false
set_option linter.unusedSimpArgs false

set_option maxRecDepth 100000 in
set_option maxHeartbeats 2000000 in
theorem rref_11 (w : World) (a2 a3 a4 a5 a6 : Int) (a7 : ByteArray) (a8 : List Att) (a9 : ByteArray) (p1 : Option Addr) (p2 p3 : Nat) (hq : p2 = a8.length) (hb : p2 ≤ 100000) :
    Calls Tryd.prog 9 #[ov ⟨11, a2, a3, a4, a5, a6, a7, a8, a9⟩ (p1, p2, p3)] w fun e w' => e = .returned (.bool (rightO ⟨11, a2, a3, a4, a5, a6, a7, a8, a9⟩)) ∧ Kp [] w w' := by
  obtain ⟨A, hA0⟩ : ∃ A, rightO ⟨11, a2, a3, a4, a5, a6, a7, a8, a9⟩ = A := ⟨_, rfl⟩
  rw [hA0]
  have hA : Hid (rightO ⟨11, a2, a3, a4, a5, a6, a7, a8, a9⟩ = A) := hA0
  clear hA0
  have hk : Kp [] w ((w.alloc (.cells #[.int .i64 11, .int .i64 a2, .int .i64 a3, .int .i64 a4, .int .i64 a5, .int .i64 a6, .string a7, .slice p1 p2 p3, .string a9] 24)).alloc (.cells #[.int .i64 a2, .int .i64 a3, .int .i64 a4] 3)) := ((Kp.refl _ _).alloc _).alloc _
  have R0 := rb_lit ((w.alloc (.cells #[.int .i64 11, .int .i64 a2, .int .i64 a3, .int .i64 a4, .int .i64 a5, .int .i64 a6, .string a7, .slice p1 p2 p3, .string a9] 24)).alloc (.cells #[.int .i64 a2, .int .i64 a3, .int .i64 a4] 3)) 3 _ (iz [a2, a3, a4, a5, a6]) 5 rfl rfl (by omega)
  rw [show ((w.alloc (.cells #[.int .i64 11, .int .i64 a2, .int .i64 a3, .int .i64 a4, .int .i64 a5, .int .i64 a6, .string a7, .slice p1 p2 p3, .string a9] 24)).alloc (.cells #[.int .i64 a2, .int .i64 a3, .int .i64 a4] 3)).heap.size = w.heap.size + 2 by simp] at R0
  have HZ := zero_any (((w.alloc (.cells #[.int .i64 11, .int .i64 a2, .int .i64 a3, .int .i64 a4, .int .i64 a5, .int .i64 a6, .string a7, .slice p1 p2 p3, .string a9] 24)).alloc (.cells #[.int .i64 a2, .int .i64 a3, .int .i64 a4] 3)).alloc (.cells #[.int .i64 a2, .int .i64 a3, .int .i64 a4, .int .i64 a5, .int .i64 a6] 3)) a7 a9 a8 [a2, a3, a4, a5, a6] p1 (some ⟨w.heap.size + 2, 0, none⟩) p2 p3 5 5 hq R0 hb (by omega)
  clear R0
  have hk2 : Kp [] w (((w.alloc (.cells #[.int .i64 11, .int .i64 a2, .int .i64 a3, .int .i64 a4, .int .i64 a5, .int .i64 a6, .string a7, .slice p1 p2 p3, .string a9] 24)).alloc (.cells #[.int .i64 a2, .int .i64 a3, .int .i64 a4] 3)).alloc (.cells #[.int .i64 a2, .int .i64 a3, .int .i64 a4, .int .i64 a5, .int .i64 a6] 3)) := hk.alloc _
  clear hq hb
  simp only [ov]
  go_enter Tryd.func9, Tryd.ntmps9
  go_wp2
  go_loopw [13] (fun i wr => ∃ k : Nat, k ≤ 3 ∧ i = .int .i64 k ∧ wr = ((w.alloc (.cells #[.int .i64 11, .int .i64 a2, .int .i64 a3, .int .i64 a4, .int .i64 a5, .int .i64 a6, .string a7, .slice p1 p2 p3, .string a9] 24)).alloc (.cells #[.int .i64 a2, .int .i64 a3, .int .i64 a4] 3)) ∧ inK a2 a3 a4 k) (fun i _ => 3 - (intOf i).toNat)
  case atStart => exact ⟨0, by omega, rfl, rfl, fun h => by omega, fun h => by omega, fun h => by omega⟩
  case round =>
    obtain ⟨k, hk3, rfl, rfl, i1, i2, i3⟩ := hrel
    obtain rfl | rfl | rfl | rfl : k = 0 ∨ k = 1 ∨ k = 2 ∨ k = 3 := by omega
    · cases c : inR a2
      · have hA2 := hA.out
        rw [show rightO ⟨11, a2, a3, a4, a5, a6, a7, a8, a9⟩ = false by simp [rightO, c]] at hA2
        subst hA2
        clear hA i1 i2 i3 HZ hk2
        rcases inR_no c with c1 | ⟨c1, c2⟩
        · clear c
          go_wp2
          go_ret
          exact ⟨rfl, hk⟩
        · clear c
          go_wp2
          go_ret
          exact ⟨rfl, hk⟩
      · have II : Hid (inK a2 a3 a4 1) := ⟨fun _ => c, fun _ => absurd ‹_› (by omega), fun _ => absurd ‹_› (by omega)⟩
        obtain ⟨c1, c2⟩ := inR_yes c
        clear c i1 i2 i3 hA HZ hk2 hk
        go_wp2
        go_roundw
        case rel => exact ⟨1, by omega, by first | rfl | go_num, by trivial, II.out⟩
        case measure => simp [intOf]
    · cases c : inR a3
      · have hA2 := hA.out
        rw [show rightO ⟨11, a2, a3, a4, a5, a6, a7, a8, a9⟩ = false by simp [rightO, c]] at hA2
        subst hA2
        clear hA i1 i2 i3 HZ hk2
        rcases inR_no c with c1 | ⟨c1, c2⟩
        · clear c
          go_wp2
          go_ret
          exact ⟨rfl, hk⟩
        · clear c
          go_wp2
          go_ret
          exact ⟨rfl, hk⟩
      · have II : Hid (inK a2 a3 a4 2) := ⟨fun _ => i1 (by omega), fun _ => c, fun _ => absurd ‹_› (by omega)⟩
        obtain ⟨c1, c2⟩ := inR_yes c
        clear c i1 i2 i3 hA HZ hk2 hk
        go_wp2
        go_roundw
        case rel => exact ⟨2, by omega, by first | rfl | go_num, by trivial, II.out⟩
        case measure => simp [intOf]
    · cases c : inR a4
      · have hA2 := hA.out
        rw [show rightO ⟨11, a2, a3, a4, a5, a6, a7, a8, a9⟩ = false by simp [rightO, c]] at hA2
        subst hA2
        clear hA i1 i2 i3 HZ hk2
        rcases inR_no c with c1 | ⟨c1, c2⟩
        · clear c
          go_wp2
          go_ret
          exact ⟨rfl, hk⟩
        · clear c
          go_wp2
          go_ret
          exact ⟨rfl, hk⟩
      · have II : Hid (inK a2 a3 a4 3) := ⟨fun _ => i1 (by omega), fun _ => i2 (by omega), fun _ => c⟩
        obtain ⟨c1, c2⟩ := inR_yes c
        clear c i1 i2 i3 hA HZ hk2 hk
        go_wp2
        go_roundw
        case rel => exact ⟨3, by omega, by first | rfl | go_num, by trivial, II.out⟩
        case measure => simp [intOf]
    · have q1 := i1 (by omega)
      have q2 := i2 (by omega)
      have q3 := i3 (by omega)
      clear i1 i2 i3
      by_cases s1 : 0 ≤ a6
      · by_cases s2 : a6 ≤ 2
        · have hA2 := hA.out
          rw [show rightO ⟨11, a2, a3, a4, a5, a6, a7, a8, a9⟩ = zr [a2, a3, a4, a5, a6] a7 a9 a8 by simp [rightO, rightK, q1, q2, q3, s1, s2]] at hA2
          subst hA2
          clear hA q1 q2 q3
          go_wp2_with (go_at_call 28; refine HZ.mono ?_; rintro e w9 ⟨rfl, hw⟩; have hw2 := hw.symm; clear hw; subst hw2)
          go_ret
          exact ⟨rfl, hk2⟩
        · have hA2 := hA.out
          rw [show rightO ⟨11, a2, a3, a4, a5, a6, a7, a8, a9⟩ = false by simp [rightO, s2]] at hA2
          subst hA2
          clear hA q1 q2 q3 HZ hk2
          go_wp2
          go_ret
          exact ⟨rfl, hk⟩
      · have hA2 := hA.out
        rw [show rightO ⟨11, a2, a3, a4, a5, a6, a7, a8, a9⟩ = false by simp [rightO, s1]] at hA2
        subst hA2
        clear hA q1 q2 q3 HZ hk2
        go_wp2
        go_ret
        exact ⟨rfl, hk⟩

set_option maxRecDepth 100000 in
set_option maxHeartbeats 2000000 in
theorem rref_no (w : World) (a1 : Int) (a2 a3 a4 a5 a6 : Int) (a7 : ByteArray) (a8 : List Att) (a9 : ByteArray) (p1 : Option Addr) (p2 p3 : Nat) (hq : p2 = a8.length) (hb : p2 ≤ 100000) (n1 : (a1 == 1) = false) (n2 : (a1 == 2) = false) (n3 : (a1 == 3) = false) (n4 : (a1 == 4) = false) (n5 : (a1 == 5) = false) (n6 : (a1 == 6) = false) (n7 : (a1 == 7) = false) (n8 : (a1 == 8) = false) (n9 : (a1 == 9) = false) (n10 : (a1 == 10) = false) (n11 : (a1 == 11) = false) :
    Calls Tryd.prog 9 #[ov ⟨a1, a2, a3, a4, a5, a6, a7, a8, a9⟩ (p1, p2, p3)] w fun e w' => e = .returned (.bool (rightO ⟨a1, a2, a3, a4, a5, a6, a7, a8, a9⟩)) ∧ Kp [] w w' := by
  obtain ⟨A, hA0⟩ : ∃ A, rightO ⟨a1, a2, a3, a4, a5, a6, a7, a8, a9⟩ = A := ⟨_, rfl⟩
  rw [hA0]
  have hA : Hid (rightO ⟨a1, a2, a3, a4, a5, a6, a7, a8, a9⟩ = A) := hA0
  clear hA0
  have hk : Kp [] w ((w.alloc (.cells #[.int .i64 a1, .int .i64 a2, .int .i64 a3, .int .i64 a4, .int .i64 a5, .int .i64 a6, .string a7, .slice p1 p2 p3, .string a9] 24)).alloc (.cells #[.int .i64 a2, .int .i64 a3, .int .i64 a4] 3)) := ((Kp.refl _ _).alloc _).alloc _
  clear hq hb
  simp only [ov]
  go_enter Tryd.func9, Tryd.ntmps9
  go_wp2
  go_loopw [13] (fun i wr => ∃ k : Nat, k ≤ 3 ∧ i = .int .i64 k ∧ wr = ((w.alloc (.cells #[.int .i64 a1, .int .i64 a2, .int .i64 a3, .int .i64 a4, .int .i64 a5, .int .i64 a6, .string a7, .slice p1 p2 p3, .string a9] 24)).alloc (.cells #[.int .i64 a2, .int .i64 a3, .int .i64 a4] 3)) ∧ inK a2 a3 a4 k) (fun i _ => 3 - (intOf i).toNat)
  case atStart => exact ⟨0, by omega, rfl, rfl, fun h => by omega, fun h => by omega, fun h => by omega⟩
  case round =>
    obtain ⟨k, hk3, rfl, rfl, i1, i2, i3⟩ := hrel
    obtain rfl | rfl | rfl | rfl : k = 0 ∨ k = 1 ∨ k = 2 ∨ k = 3 := by omega
    · cases c : inR a2
      · have hA2 := hA.out
        rw [show rightO ⟨a1, a2, a3, a4, a5, a6, a7, a8, a9⟩ = false by simp [rightO, c]] at hA2
        subst hA2
        clear hA i1 i2 i3
        rcases inR_no c with c1 | ⟨c1, c2⟩
        · clear c
          go_wp2
          go_ret
          exact ⟨rfl, hk⟩
        · clear c
          go_wp2
          go_ret
          exact ⟨rfl, hk⟩
      · have II : Hid (inK a2 a3 a4 1) := ⟨fun _ => c, fun _ => absurd ‹_› (by omega), fun _ => absurd ‹_› (by omega)⟩
        obtain ⟨c1, c2⟩ := inR_yes c
        clear c i1 i2 i3 hA hk
        go_wp2
        go_roundw
        case rel => exact ⟨1, by omega, by first | rfl | go_num, by trivial, II.out⟩
        case measure => simp [intOf]
    · cases c : inR a3
      · have hA2 := hA.out
        rw [show rightO ⟨a1, a2, a3, a4, a5, a6, a7, a8, a9⟩ = false by simp [rightO, c]] at hA2
        subst hA2
        clear hA i1 i2 i3
        rcases inR_no c with c1 | ⟨c1, c2⟩
        · clear c
          go_wp2
          go_ret
          exact ⟨rfl, hk⟩
        · clear c
          go_wp2
          go_ret
          exact ⟨rfl, hk⟩
      · have II : Hid (inK a2 a3 a4 2) := ⟨fun _ => i1 (by omega), fun _ => c, fun _ => absurd ‹_› (by omega)⟩
        obtain ⟨c1, c2⟩ := inR_yes c
        clear c i1 i2 i3 hA hk
        go_wp2
        go_roundw
        case rel => exact ⟨2, by omega, by first | rfl | go_num, by trivial, II.out⟩
        case measure => simp [intOf]
    · cases c : inR a4
      · have hA2 := hA.out
        rw [show rightO ⟨a1, a2, a3, a4, a5, a6, a7, a8, a9⟩ = false by simp [rightO, c]] at hA2
        subst hA2
        clear hA i1 i2 i3
        rcases inR_no c with c1 | ⟨c1, c2⟩
        · clear c
          go_wp2
          go_ret
          exact ⟨rfl, hk⟩
        · clear c
          go_wp2
          go_ret
          exact ⟨rfl, hk⟩
      · have II : Hid (inK a2 a3 a4 3) := ⟨fun _ => i1 (by omega), fun _ => i2 (by omega), fun _ => c⟩
        obtain ⟨c1, c2⟩ := inR_yes c
        clear c i1 i2 i3 hA hk
        go_wp2
        go_roundw
        case rel => exact ⟨3, by omega, by first | rfl | go_num, by trivial, II.out⟩
        case measure => simp [intOf]
    · have q1 := i1 (by omega)
      have q2 := i2 (by omega)
      have q3 := i3 (by omega)
      clear i1 i2 i3
      by_cases s1 : 0 ≤ a6
      · by_cases s2 : a6 ≤ 2
        · have hA2 := hA.out
          have hz : rightK ⟨a1, a2, a3, a4, a5, a6, a7, a8, a9⟩ = false := by
            simp only [beq_eq_false_iff_ne] at n1 n2 n3 n4 n5 n6 n7 n8 n9 n10 n11
            simp [rightK, n1, n2, n3, n4, n5, n6, n7, n8, n9, n10, n11]
          rw [show rightO ⟨a1, a2, a3, a4, a5, a6, a7, a8, a9⟩ = false by simp [rightO, hz]] at hA2
          subst hA2
          clear hA q1 q2 q3 hz
          go_wp2
          go_ret
          exact ⟨rfl, hk⟩
        · have hA2 := hA.out
          rw [show rightO ⟨a1, a2, a3, a4, a5, a6, a7, a8, a9⟩ = false by simp [rightO, s2]] at hA2
          subst hA2
          clear hA q1 q2 q3
          go_wp2
          go_ret
          exact ⟨rfl, hk⟩
      · have hA2 := hA.out
        rw [show rightO ⟨a1, a2, a3, a4, a5, a6, a7, a8, a9⟩ = false by simp [rightO, s1]] at hA2
        subst hA2
        clear hA q1 q2 q3
        go_wp2
        go_ret
        exact ⟨rfl, hk⟩

end Go.Proofs.YtpjkpobdkmcedaaDoor
