/-
  The walk of ScanTells: it answers true, for any arguments, and leaves what was there as it was.
-/
import Derived.Test.YtoegjgajleamkaaAgree
import Derived.Deep.RegionHeld3
namespace Go.Proofs.Ytoegjgajleamkaa
open Go.RowKit Utf

/-- A text cut to m bytes. -/
def cutB (s : ByteArray) (m : Nat) : ByteArray := if m < s.size then s.extract 0 m else s
theorem cutB_size (s : ByteArray) (m : Nat) : (cutB s m).size ≤ m := cut_size s m

theorem head_any (w : World) (s : ByteArray) (m : Nat) (c : Int) (hc : c = (m : Int)) (hm : m ≤ 1000) : Calls Try.prog 11 #[.string s, .int .i64 c] w fun e w' => e = .returned (.string (cutB s m)) ∧ w' = w := by
  subst hc
  exact cut_any w s m hm

theorem from_zero (w : World) (n : Int) (hi : Nat) (hm : hi ≤ 1099511627776) : Calls Try.prog 12 #[.int .i64 n, .int .i64 0, .int .i64 (hi : Int)] w fun e w' => e = .returned (.int .i64 (wi n hi : Int)) ∧ w' = w := by
  have := within_any w n 0 hi (Nat.zero_le _) hm
  rw [Nat.zero_add, Nat.sub_zero] at this
  exact this

set_option maxRecDepth 100000 in
set_option maxHeartbeats 1000000 in
theorem tells_any (w : World) (s0 : ByteArray) (p : Int) (sub0 : ByteArray) (f n : Int) : Calls Try.prog 4 #[.string s0, .int .i64 p, .string sub0, .int .i64 f, .int .i64 n] w fun e w' => e = .returned (.bool true) ∧ Kp [] w w' := by
  have H1 := head_any w s0 80 80 rfl (by omega)
  have H2 := head_any w sub0 20 20 rfl (by omega)
  have hs := cutB_size s0 80
  have hb := cutB_size sub0 20
  generalize cutB s0 80 = s at H1 hs
  generalize cutB sub0 20 = sub at H2 hb
  have H3 := from_zero w f s.size (by omega)
  have hi := wi_le f s.size
  generalize wi f s.size = i at H3 hi
  have H4 := within_any w n i s.size hi (by omega)
  obtain ⟨j, hj⟩ : ∃ j, i + wi n (s.size - i) = j := ⟨_, rfl⟩
  have hj1 : i ≤ j := by omega
  have hj2 : j ≤ s.size := by have := wi_le n (s.size - i); omega
  rw [hj] at H4
  clear hj
  have H5 : Hid (∀ W, Calls Try.prog 9 #[.string s, .int .i64 p, .string sub] W fun e w' => e = .returned (.bool true) ∧ Kp [] W w') := fun W => same_any W s p sub (by omega) (by omega)
  have H6 : Hid (∀ W, Calls Try.prog 12 #[.int .i64 p, .int .i64 0, .int .i64 (s.size : Int)] W fun e w' => e = .returned (.int .i64 (wi p s.size : Int)) ∧ w' = W) := fun W => from_zero W p s.size (by omega)
  have H7 : Hid (∀ W, Calls Try.prog 9 #[.string s, .int .i64 (wi p s.size : Int), .string (s.extract i j)] W fun e w' => e = .returned (.bool true) ∧ Kp [] W w') := fun W => same_any W s _ _ (by omega) (by simp; omega)
  generalize wi p s.size = u at H6 H7
  have b1 : (0 : Int) ≤ (i : Int) := by omega
  have b2 : (i : Int) ≤ (j : Int) := by omega
  have b3 : (j : Int) ≤ (s.size : Int) := by omega
  have b4 : (0 : Int) ≤ (j : Int) := by omega
  go_enter Try.func4, Try.ntmps4
  go_wp2_with fail
  refine H1.mono ?_
  rintro e w1 ⟨rfl, rfl⟩
  clear H1
  go_wp2_with fail
  refine H2.mono ?_
  rintro e w2 ⟨rfl, rfl⟩
  clear H2
  go_wp2_with fail
  refine H3.mono ?_
  rintro e w3 ⟨rfl, rfl⟩
  clear H3
  go_wp2_with fail
  refine H4.mono ?_
  rintro e w4 ⟨rfl, rfl⟩
  clear H4
  go_wp2_with fail
  go_region_held3 (fun _ => True)
    (trivial)
    (first
      | (go_at_call 10; refine (known_any _).mono ?_; rintro e v4 ⟨rfl, kk⟩; have S4 : Hid (Kp [] w4 v4) := S3.out.trans kk (fun x hx => by simp at hx); clear kk)
      | (go_at_call 9; have D3 := S2.out; refine (H7.out _).mono ?_; rintro e v3 ⟨rfl, kk⟩; have S3 : Hid (Kp [] w4 v3) := S2.out.trans kk (fun x hx => by simp at hx); clear kk)
      | (go_at_call 12; refine (H6.out _).mono ?_; rintro e v2 ⟨rfl, rfl⟩; have S2 : Hid (Kp [] w4 v2) := S1.out)
      | (go_at_call 9; refine (H5.out _).mono ?_; rintro e v1 ⟨rfl, kk⟩; have S1 : Hid (Kp [] w4 v1) := (Kp.refl [] w4).drew.trans kk (fun x hx => by simp at hx); clear kk))
  go_wp2
  go_ret
  exact ⟨rfl, S4.out⟩

end Go.Proofs.Ytoegjgajleamkaa
