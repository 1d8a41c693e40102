/-
  The program's small calls: place, fits, small, space, endsName; the document's Place and has; Head and Within.
-/
import Derived.Test.YthdlmglnieomeaaStand
namespace Go.Proofs.Ythdlmglnieomeaa
open Go.RowKit Utf

theorem place_any (w : World) (s : ByteArray) (p : Int) : Calls Try.prog 48 #[.string s, .int .i64 p] w fun e w' => e = .returned (.int .i64 (pl s.size p : Int)) ∧ w' = w := by
  by_cases h : p < 0
  · rw [pl_lo h]
    go_enter Try.func48, Try.ntmps48
    go_wp2
    go_ret
    exact ⟨rfl, rfl⟩
  · by_cases h2 : (s.size : Int) < p
    · rw [pl_hi h2]
      go_enter Try.func48, Try.ntmps48
      go_wp2
      go_ret
      exact ⟨rfl, rfl⟩
    · rw [pl_in h h2]
      go_enter Try.func48, Try.ntmps48
      go_wp2
      go_ret
      exact ⟨rfl, rfl⟩

theorem fits_any (w : World) (s sub : ByteArray) (p : Nat) (hp : p ≤ s.size) (hs : s.size ≤ 100000) : Calls Try.prog 49 #[.string s, .int .i64 p, .string sub] w fun e w' => e = .returned (.bool (decide (p + sub.size ≤ s.size))) ∧ w' = w := by
  go_enter Try.func49, Try.ntmps49
  go_wp2
  go_ret
  refine ⟨?_, rfl⟩
  show Ending.returned (.bool (decide _)) = _
  congr 2
  rw [decide_eq_decide]
  omega

theorem small_any (w : World) (x : Int) : Calls Try.prog 53 #[.int .u8 x] w fun e w' => e = .returned (.int .u8 (low x)) ∧ w' = w := by
  by_cases hx : 65 ≤ x ∧ x ≤ 90
  · rw [show low x = x + 32 by unfold low; rw [if_pos hx]]
    obtain ⟨d1, d2⟩ := hx
    go_enter Try.func53, Try.ntmps53
    go_wp2
    go_ret
    exact ⟨rfl, rfl⟩
  · rw [show low x = x by unfold low; rw [if_neg hx]]
    rcases (show ¬ 65 ≤ x ∨ (65 ≤ x ∧ ¬ x ≤ 90) by omega) with d1 | ⟨d1, d2⟩
    all_goals
      clear hx
      go_enter Try.func53, Try.ntmps53
      go_wp2
      go_ret
      exact ⟨rfl, rfl⟩

theorem bspace_any (w : World) (x : Int) (h : 0 ≤ x ∧ x < 256) : Calls Try.prog 59 #[.int .u8 x] w fun e w' => e = .returned (.bool (isSp x)) ∧ w' = w := by
  obtain ⟨h1, h2⟩ := h
  have HS := space_any w x
  go_enter Try.func59, Try.ntmps59
  go_wp2_with fail
  refine HS.mono ?_
  rintro e w1 ⟨rfl, rfl⟩
  clear HS
  go_wp2
  go_ret
  exact ⟨rfl, rfl⟩


theorem ref_place_any (w : World) (s : ByteArray) (p : Int) : Calls Try.prog 45 #[.string s, .int .i64 p] w fun e w' => e = .returned (.int .i64 (pl s.size p : Int)) ∧ w' = w := by
  by_cases h : p < 0
  · rw [pl_lo h]
    go_enter Try.func45, Try.ntmps45
    go_wp2
    go_ret
    exact ⟨rfl, rfl⟩
  · by_cases h2 : (s.size : Int) < p
    · rw [pl_hi h2]
      go_enter Try.func45, Try.ntmps45
      go_wp2
      go_ret
      exact ⟨rfl, rfl⟩
    · rw [pl_in h h2]
      go_enter Try.func45, Try.ntmps45
      go_wp2
      go_ret
      exact ⟨rfl, rfl⟩

/-- No more of a text than m bytes. -/
theorem cut_any (w : World) (s : ByteArray) (m : Nat) (hm : m ≤ 1000) : Calls Try.prog 9 #[.string s, .int .i64 (m : Int)] w fun e w' => e = .returned (.string (if m < s.size then s.extract 0 m else s)) ∧ w' = w := by
  by_cases h : m < s.size
  · rw [if_pos h]
    go_enter Try.func9, Try.ntmps9
    go_wp2
    go_ret
    exact ⟨rfl, rfl⟩
  · rw [if_neg h]
    go_enter Try.func9, Try.ntmps9
    go_wp2
    go_ret
    exact ⟨rfl, rfl⟩

theorem cut_size (s : ByteArray) (m : Nat) : (if m < s.size then s.extract 0 m else s).size ≤ m := by
  split
  · simp
    omega
  · omega

/-- A number brought into the range from 0 to m. -/
def wi (n : Int) (m : Nat) : Nat := (if n.tmod ((m : Int) + 1) < 0 then n.tmod ((m : Int) + 1) + ((m : Int) + 1) else n.tmod ((m : Int) + 1)).toNat

theorem wi_le (n : Int) (m : Nat) : wi n m ≤ m := by
  have t1 : n.tmod ((m : Int) + 1) < (m : Int) + 1 := Int.tmod_lt_of_pos n (by omega)
  have t2 : -((m : Int) + 1) < n.tmod ((m : Int) + 1) := Int.lt_tmod_of_pos n (by omega)
  unfold wi
  split <;> omega

/-- Within, of any range of places. -/
theorem within_any (w : World) (n : Int) (lo hi : Nat) (hl : lo ≤ hi) (hm : hi ≤ 1099511627776) : Calls Try.prog 10 #[.int .i64 n, .int .i64 (lo : Int), .int .i64 (hi : Int)] w fun e w' => e = .returned (.int .i64 ((lo + wi n (hi - lo) : Nat) : Int)) ∧ w' = w := by
  have e1 : (hi : Int) - (lo : Int) + 1 = ((hi - lo : Nat) : Int) + 1 := by omega
  have t1 : n.tmod ((hi : Int) - lo + 1) < (hi : Int) - lo + 1 := Int.tmod_lt_of_pos n (by omega)
  have t2 : -((hi : Int) - lo + 1) < n.tmod ((hi : Int) - lo + 1) := Int.lt_tmod_of_pos n (by omega)
  by_cases h : n.tmod ((hi : Int) - lo + 1) < 0
  · have hw : ((lo + wi n (hi - lo) : Nat) : Int) = hi + 1 + n.tmod ((hi : Int) - lo + 1) := by
      unfold wi
      rw [← e1, if_pos h]
      omega
    rw [hw]
    clear hw e1
    go_enter Try.func10, Try.ntmps10
    go_wp2
    go_ret
    refine ⟨?_, rfl⟩
    show Ending.returned (.int .i64 _) = _
    congr 2
    omega
  · have hw : ((lo + wi n (hi - lo) : Nat) : Int) = lo + n.tmod ((hi : Int) - lo + 1) := by
      unfold wi
      rw [← e1, if_neg h]
      omega
    rw [hw]
    clear hw e1
    go_enter Try.func10, Try.ntmps10
    go_wp2
    go_ret
    exact ⟨rfl, rfl⟩

end Go.Proofs.Ythdlmglnieomeaa
