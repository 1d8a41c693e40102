/-
  The walks of RefsTells and RefsNumbers: whatever they are given, they answer true, and leave what was there as it was.
-/
import Derived.Test.YtidkcfblfibaaaaDoorAlls
namespace Go.Proofs.YtidkcfblfibaaaaDoor
open Go.RowKit Utf

set_option maxHeartbeats 1000000 in
/-- same. -/
theorem same_any (w : World) (hn : Nm w) (s : ByteArray) : Calls Tryd.prog 10 #[.string s] w fun e w' => e = .returned (.bool true) ∧ Kp [] w w' := by
  have H1 := named_any w hn s
  have H2 := ref_named_any w s
  generalize mean (found s) = a at H1 H2
  generalize ((found s).size : Int) = b at H1 H2
  clear hn
  go_enter Tryd.func10, Tryd.ntmps10
  go_wp2_with fail
  refine H1.mono ?_
  rintro e w1 ⟨rfl, rfl⟩
  go_wp2_with fail
  refine H2.mono ?_
  rintro e w2 ⟨rfl, k2⟩
  clear H1 H2
  go_wp2
  go_ret
  exact ⟨rfl, k2⟩

set_option maxHeartbeats 1000000 in
/-- known. -/
theorem known_any (w : World) (hn : Nm w) : Calls Tryd.prog 13 #[] w fun e w' => e = .returned (.bool true) ∧ w' = w := by
  have H1 := named_any w hn ⟨#[110, 111, 116, 105, 116, 59]⟩
  have H2 := named_any w hn ⟨#[110, 111, 116, 105, 110, 59]⟩
  rw [show found ⟨#[110, 111, 116, 105, 116, 59]⟩ = ⟨#[110, 111, 116]⟩ by kernel_rfl, show mean ⟨#[110, 111, 116]⟩ = ⟨#[194, 172]⟩ by kernel_rfl] at H1
  rw [show found ⟨#[110, 111, 116, 105, 110, 59]⟩ = ⟨#[110, 111, 116, 105, 110, 59]⟩ by kernel_rfl, show mean ⟨#[110, 111, 116, 105, 110, 59]⟩ = ⟨#[226, 136, 137]⟩ by kernel_rfl] at H2
  rw [show (((⟨#[110, 111, 116]⟩ : ByteArray).size : Nat) : Int) = 3 by kernel_rfl] at H1
  rw [show (((⟨#[110, 111, 116, 105, 110, 59]⟩ : ByteArray).size : Nat) : Int) = 6 by kernel_rfl] at H2
  clear hn
  go_enter Tryd.func13, Tryd.ntmps13
  go_wp2_with fail
  refine H1.mono ?_
  rintro e w1 ⟨rfl, rfl⟩
  go_wp2_with fail
  refine H2.mono ?_
  rintro e w2 ⟨rfl, rfl⟩
  clear H1 H2
  go_wp2
  go_ret
  exact ⟨rfl, rfl⟩

set_option maxHeartbeats 1000000 in
theorem tells_any (w : World) (hn : Nm w) (hi : In w) (s0 : ByteArray) (i n : Int) (h64 : int64 n) : Calls Tryd.prog 4 #[.string s0, .int .i64 i, .int .i64 n] w fun e w' => e = .returned (.bool true) ∧ Kp [] w w' := by
  have hwi := wi_le i 50
  have hsz := head_size s0 60
  go_enter Tryd.func4, Tryd.ntmps4
  go_wp2_with fail
  refine (head_any _ s0 60 (by omega)).mono ?_
  rintro e w' ⟨rfl, rfl⟩
  generalize (if 60 < s0.size then s0.extract 0 60 else s0) = s at hsz ⊢
  go_wp2_with fail
  refine (ref_all_any _).mono ?_
  rintro e w1 ⟨ao, m, c, rfl, m1⟩
  obtain rfl : m = 51 := by
    have := m1.rb.len
    rw [tx_len, nm_len] at this
    exact this
  obtain ⟨b1, o1, rfl, h1⟩ := m1.rb.tx_at (wi i 50) (by rw [nm_len]; omega)
  have k1 := m1.2.1
  have hx := (nm_size (NM[wi i 50]'(by rw [nm_len]; omega)) (List.getElem_mem _)).2
  generalize NM[wi i 50]'(by rw [nm_len]; omega) = x at h1 hx
  have n1 := hn.kept k1
  have i1 := hi.kept k1
  clear m1 hn hi
  go_wp2_with fail
  refine (within_any w1 i 50 (by omega)).mono ?_
  rintro e w' ⟨rfl, rfl⟩
  generalize wi i 50 = j at h1 hwi
  go_wp2_with fail
  refine (same_any _ n1 s).mono ?_
  rintro e w2 ⟨rfl, kk⟩
  have k2 := k1.trans kk (fun x hx => by simp at hx)
  have n2 := n1.kept kk
  have i2 := i1.kept kk
  clear n1 i1 k1 kk h1
  go_wp2_with fail
  refine (same_any _ n2 (x ++ s)).mono ?_
  rintro e w3 ⟨rfl, kk⟩
  have k3 := k2.trans kk (fun x hx => by simp at hx)
  have n3 := n2.kept kk
  have i3 := i2.kept kk
  clear n2 i2 k2 kk
  go_wp2_with fail
  refine (number_any _ i3 n h64).mono ?_
  rintro e w' ⟨rfl, rfl⟩
  go_wp2_with fail
  refine (ref_number_any _ n h64).mono ?_
  rintro e w4 ⟨rfl, kk⟩
  have k4 := k3.trans kk (fun x hx => by simp at hx)
  have n4 := n3.kept kk
  have i4 := i3.kept kk
  clear n3 i3 k3 kk
  generalize num n = a
  have hwn := wi_le n 1114128
  have h64' : int64 (wi n 1114128 : Int) := by unfold int64; omega
  go_wp2_with fail
  refine (within_any _ n 1114128 (by omega)).mono ?_
  rintro e w' ⟨rfl, rfl⟩
  go_wp2_with fail
  refine (number_any _ i4 _ h64').mono ?_
  rintro e w' ⟨rfl, rfl⟩
  go_wp2_with fail
  refine (within_any _ n 1114128 (by omega)).mono ?_
  rintro e w' ⟨rfl, rfl⟩
  go_wp2_with fail
  refine (ref_number_any _ _ h64').mono ?_
  rintro e w5 ⟨rfl, kk⟩
  have k5 := k4.trans kk (fun x hx => by simp at hx)
  have n5 := n4.kept kk
  clear n4 i4 k4 kk
  generalize num (wi n 1114128 : Int) = b
  go_wp2_with fail
  refine (known_any _ n5).mono ?_
  rintro e w' ⟨rfl, rfl⟩
  go_wp2
  go_ret
  exact ⟨rfl, k5⟩

end Go.Proofs.YtidkcfblfibaaaaDoor
