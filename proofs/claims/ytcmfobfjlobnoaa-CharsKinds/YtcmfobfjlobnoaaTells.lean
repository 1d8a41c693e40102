/-
  The walks of CharsTells and CharsNumbers: whatever rune and texts they are given, they answer true, and leave what was there as it was.
-/
import Derived.Test.YtcmfobfjlobnoaaAgree
namespace Go.Proofs.Ytcmfobfjlobnoaa
open Go.RowKit Utf

theorem encode_size (x : Int) : (Utf8.encode x).size ≤ 4 := by
  unfold Utf8.encode
  simp only []
  repeat' split
  all_goals (show List.length _ ≤ 4; simp)

set_option maxHeartbeats 1000000 in
set_option maxRecDepth 100000 in
theorem tells_any (w : World) (r : Int) (s0 t0 : ByteArray) : Calls Try.prog 4 #[.int .i32 r, .string s0, .string t0] w fun e w' => e = .returned (.bool true) ∧ Kp [] w w' := by
  go_enter Try.func4, Try.ntmps4
  go_wp2_with fail
  refine (head_any _ s0 200 (by omega)).mono ?_
  rintro e w' ⟨⟨s, rfl, hs⟩, rfl⟩
  go_wp2_with fail
  refine (head_any _ t0 200 (by omega)).mono ?_
  rintro e w' ⟨⟨t, rfl, ht⟩, rfl⟩
  go_wp2_with fail
  refine (one_any _ r).mono ?_
  rintro e w' ⟨rfl, rfl⟩
  go_wp2_with fail
  refine (same_any _ s (by omega)).mono ?_
  rintro e w1 ⟨rfl, k1⟩
  have F1 := fold_any w1 s t (by omega) (by omega)
  have R1 := fun W => ref_lower_any W s (by omega)
  have R2 := fun W => ref_lower_any W t (by omega)
  have hls := lower_size s
  have F2 := fun W => fold_any W s (lower s) (by omega) (by omega)
  simp only [lower_lower, decide_true] at F2
  generalize lower s = A at F1 R1 F2
  generalize lower t = B at F1 R2
  clear hls
  by_cases hAB : A = B
  · subst hAB
    rw [decide_eq_true rfl] at F1
    go_wp2_with fail
    refine F1.mono ?_
    rintro e w2 ⟨rfl, kk⟩
    have k2 := k1.trans kk (fun x hx => by simp at hx)
    clear F1 k1 kk
    go_wp2_with fail
    refine (R1 _).mono ?_
    rintro e w3 ⟨rfl, kk⟩
    have k3 := k2.trans kk (fun x hx => by simp at hx)
    clear k2 kk
    go_wp2_with fail
    refine (R2 _).mono ?_
    rintro e w4 ⟨rfl, kk⟩
    have k4 := k3.trans kk (fun x hx => by simp at hx)
    clear k3 kk
    go_wp2_with fail
    refine (R1 _).mono ?_
    rintro e w5 ⟨rfl, kk⟩
    have k5 := k4.trans kk (fun x hx => by simp at hx)
    clear k4 kk
    go_wp2_with fail
    refine (F2 _).mono ?_
    rintro e w6 ⟨rfl, kk⟩
    have k6 := k5.trans kk (fun x hx => by simp at hx)
    clear k5 kk R1 R2 F2
    go_wp2_with fail
    refine (known_any _).mono ?_
    rintro e w7 ⟨rfl, kk⟩
    have k7 := k6.trans kk (fun x hx => by simp at hx)
    clear k6 kk
    go_wp2
    go_ret
    exact ⟨rfl, k7⟩
  · rw [decide_eq_false hAB] at F1
    have hb : (A.toList == B.toList) = false := by rw [list_eq, decide_eq_false hAB]
    go_wp2_with fail
    refine F1.mono ?_
    rintro e w2 ⟨rfl, kk⟩
    have k2 := k1.trans kk (fun x hx => by simp at hx)
    clear F1 k1 kk
    go_wp2_with fail
    refine (R1 _).mono ?_
    rintro e w3 ⟨rfl, kk⟩
    have k3 := k2.trans kk (fun x hx => by simp at hx)
    clear k2 kk
    go_wp2_with fail
    refine (R2 _).mono ?_
    rintro e w4 ⟨rfl, kk⟩
    have k4 := k3.trans kk (fun x hx => by simp at hx)
    clear k3 kk
    go_wp2_with fail
    refine (R1 _).mono ?_
    rintro e w5 ⟨rfl, kk⟩
    have k5 := k4.trans kk (fun x hx => by simp at hx)
    clear k4 kk
    go_wp2_with fail
    refine (F2 _).mono ?_
    rintro e w6 ⟨rfl, kk⟩
    have k6 := k5.trans kk (fun x hx => by simp at hx)
    clear k5 kk R1 R2 F2
    go_wp2_with fail
    refine (known_any _).mono ?_
    rintro e w7 ⟨rfl, kk⟩
    have k7 := k6.trans kk (fun x hx => by simp at hx)
    clear k6 kk
    go_wp2
    go_ret
    exact ⟨rfl, k7⟩

set_option maxHeartbeats 1000000 in
set_option maxRecDepth 100000 in
theorem numbers_any (w : World) : Calls Try.prog 3 #[] w fun e w' => e = .returned (.bool true) ∧ Kp [] w w' := by
  go_enter Try.func3, Try.ntmps3
  go_wp2
  go_loopw [1] (fun i wr => ∃ k : Int, i = .int .i32 k ∧ -2 ≤ k ∧ k ≤ 300 ∧ Kp [] w wr) (fun i _ => (300 - intOf i).toNat)
  case atStart => exact ⟨-2, rfl, by omega, by omega, Kp.refl _ _⟩
  case round =>
    obtain ⟨k, rfl, hk0, hk1, kp⟩ := hrel
    by_cases hlt : k < 300
    · have hsz := encode_size k
      go_wp2_with fail
      refine (one_any _ k).mono ?_
      rintro e w' ⟨rfl, rfl⟩
      go_wp2_with fail
      refine (same_any _ _ (by omega)).mono ?_
      rintro e w1 ⟨rfl, kk⟩
      have k1 := kp.trans kk (fun x hx => by simp at hx)
      clear kk kp
      go_wp2
      go_roundw
      case rel => exact ⟨k + 1, rfl, by omega, by omega, k1⟩
      case measure => simp [intOf]; omega
    · go_wp2_with fail
      refine (one_any _ _).mono ?_
      rintro e w' ⟨rfl, rfl⟩
      go_wp2_with fail
      refine (one_any _ _).mono ?_
      rintro e w' ⟨rfl, rfl⟩
      go_wp2_with fail
      refine (one_any _ _).mono ?_
      rintro e w' ⟨rfl, rfl⟩
      go_wp2_with fail
      refine (known_any _).mono ?_
      rintro e w1 ⟨rfl, kk⟩
      have k1 := kp.trans kk (fun x hx => by simp at hx)
      clear kk kp
      go_wp2
      go_ret
      exact ⟨rfl, k1⟩

end Go.Proofs.Ytcmfobfjlobnoaa
