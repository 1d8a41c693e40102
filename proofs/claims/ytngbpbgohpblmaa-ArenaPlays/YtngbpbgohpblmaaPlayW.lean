/-
  ArenaPlays: an arena is what the document says, for any calls.
-/
import Derived.Test.YtngbpbgohpblmaaPlay
import Derived.Test.YtngbpbgohpblmaaAll
namespace Go.Proofs.Ytngbpbgohpblmaa
open Go.RowKit Go.Maps Utf
set_option linter.unusedVariables false
set_option linter.unusedSimpArgs false

set_option maxRecDepth 100000 in
set_option maxHeartbeats 1000000 in
theorem plays_any (w : World) (ao : Option Addr) (n c : Nat) (F : Nat → Aq) (hin : Ain w ao n c F) :
    Calls Try.prog 3 #[.slice ao n c] w fun e w' => e = .returned (.bool true) ∧ Kp [] w w' := by
  obtain ⟨HN, HR⟩ := new2 w
  have HN := HN.out
  have HD := do_at hin
  have hmx := hin.max
  clear hin
  go_enter Try.func3, Try.ntmps3
  go_wp2_with (first | (go_at_call 9; refine HN.mono ?_; rintro e w1 ⟨b, tag1, rfl, p1, m1⟩) | (go_at_call 10; refine (HR.out _ _ _ p1 m1).mono ?_; rintro e w2 ⟨d, tag2, rfl, B2, v2⟩))
  have H0 : Hid (Bo tag2 w2 b d false Ar.first 0 ∧ Bv (fun _ => 0) w tag2 w2) := ⟨B2, v2⟩
  clear HN HR p1 m1 B2 v2
  go_loopw [5] (fun v wr => ∃ (i : Nat) (tag : Nat → Nat) (q : Bool) (A : Ar), v = .int .i64 (i : Int) ∧ i ≤ 60 ∧ i ≤ n ∧ Bo tag wr b d q A i ∧ Bv (fun _ => 0) w tag wr) (fun v _ => 60 - (intOf v).toNat)
  case atStart => exact ⟨0, tag2, false, Ar.first, rfl, by omega, by omega, H0.out.1, H0.out.2⟩
  case round =>
    obtain ⟨i, tag, q, A, rfl, h5, hn, B, v⟩ := hrel
    clear H0
    by_cases hi : i < n ∧ i < 60
    · obtain ⟨hin, hi5⟩ := hi
      obtain ⟨b0, off, p, rfl, HD2⟩ := HD.out i hin
      obtain ⟨HC, HDo⟩ := HD2 tag wr b d q A i B v (by omega)
      obtain ⟨f0, f1, f2, f3, f4, f5, f6, f7, f8⟩ := HC wr (Kp.refl _ _)
      have j0 : (0 : Int) ≤ (i : Int) := by omega
      have j1 : (i : Int) < (n : Int) := by omega
      have j2 : (i : Int) < 60 := by omega
      clear HD HD2 HC B v
      generalize F i = x at *
      go_wp2_with (go_at_call 11; refine HDo.mono ?_; rintro e w3 ⟨rfl, tag3, q3, A3, B3, v3⟩)
      go_roundw
      case rel => exact ⟨i + 1, tag3, q3, A3, by go_num, by omega, by omega, B3, v3⟩
      case measure => simp [intOf]; omega
    · have HA := all_any B
      have HV : Hid (Kp [] w wr) := v.kp (fun _ _ => rfl)
      clear HD B v
      by_cases hi1 : i < n
      · have hi2 : ¬ i < 60 := fun h => hi ⟨hi1, h⟩
        obtain rfl : i = 60 := by omega
        have j1 : (60 : Int) < (n : Int) := by omega
        clear hi hi1 hi2 hn h5
        rw [show ((60 : Nat) : Int) = 60 from rfl]
        go_wp2_with (first | (go_at_call 12; refine HA.mono ?_; rintro e w4 ⟨rfl, k4⟩) | (go_at_call 13; refine (known_any _).mono ?_; rintro e w5 ⟨rfl, k5⟩))
        go_ret
        exact ⟨rfl, (HV.out.trans k4 (fun x hx => Or.inl hx)).trans k5 (fun x hx => Or.inl hx)⟩
      · have j1 : (n : Int) ≤ (i : Int) := by omega
        clear hi hi1
        go_wp2_with (first | (go_at_call 12; refine HA.mono ?_; rintro e w4 ⟨rfl, k4⟩) | (go_at_call 13; refine (known_any _).mono ?_; rintro e w5 ⟨rfl, k5⟩))
        go_ret
        exact ⟨rfl, (HV.out.trans k4 (fun x hx => Or.inl hx)).trans k5 (fun x hx => Or.inl hx)⟩

end Go.Proofs.Ytngbpbgohpblmaa
