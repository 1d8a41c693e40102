/-
  The program's small calls: place, fits, small, space, endsName; the document's Place and has; Head and Within.
-/
import Derived.Test.YtgebdaanglmnnaaDoorStand
namespace Go.Proofs.YtgebdaanglmnnaaDoor
open Go.RowKit Utf

theorem place_any (w : World) (s : ByteArray) (p : Int) : Calls Tryd.prog 44 #[.string s, .int .i64 p] w fun e w' => e = .returned (.int .i64 (pl s.size p : Int)) ∧ w' = w := by
  by_cases h : p < 0
  · rw [pl_lo h]
    go_enter Tryd.func44, Tryd.ntmps44
    go_wp2
    go_ret
    exact ⟨rfl, rfl⟩
  · by_cases h2 : (s.size : Int) < p
    · rw [pl_hi h2]
      go_enter Tryd.func44, Tryd.ntmps44
      go_wp2
      go_ret
      exact ⟨rfl, rfl⟩
    · rw [pl_in h h2]
      go_enter Tryd.func44, Tryd.ntmps44
      go_wp2
      go_ret
      exact ⟨rfl, rfl⟩

theorem fits_any (w : World) (s sub : ByteArray) (p : Nat) (hp : p ≤ s.size) (hs : s.size ≤ 100000) : Calls Tryd.prog 46 #[.string s, .int .i64 p, .string sub] w fun e w' => e = .returned (.bool (decide (p + sub.size ≤ s.size))) ∧ w' = w := by
  go_enter Tryd.func46, Tryd.ntmps46
  go_wp2
  go_ret
  refine ⟨?_, rfl⟩
  show Ending.returned (.bool (decide _)) = _
  congr 2
  rw [decide_eq_decide]
  omega

theorem small_any (w : World) (x : Int) : Calls Tryd.prog 85 #[.int .u8 x] w fun e w' => e = .returned (.int .u8 (low x)) ∧ w' = w := by
  by_cases hx : 65 ≤ x ∧ x ≤ 90
  · rw [show low x = x + 32 by unfold low; rw [if_pos hx]]
    obtain ⟨d1, d2⟩ := hx
    go_enter Tryd.func85, Tryd.ntmps85
    go_wp2
    go_ret
    exact ⟨rfl, rfl⟩
  · rw [show low x = x by unfold low; rw [if_neg hx]]
    rcases (show ¬ 65 ≤ x ∨ (65 ≤ x ∧ ¬ x ≤ 90) by omega) with d1 | ⟨d1, d2⟩
    all_goals
      clear hx
      go_enter Tryd.func85, Tryd.ntmps85
      go_wp2
      go_ret
      exact ⟨rfl, rfl⟩

theorem bspace_any (w : World) (x : Int) (h : 0 ≤ x ∧ x < 256) : Calls Tryd.prog 45 #[.int .u8 x] w fun e w' => e = .returned (.bool (isSp x)) ∧ w' = w := by
  obtain ⟨h1, h2⟩ := h
  have HS := space_any w x
  go_enter Tryd.func45, Tryd.ntmps45
  go_wp2_with fail
  refine HS.mono ?_
  rintro e w1 ⟨rfl, rfl⟩
  clear HS
  go_wp2
  go_ret
  exact ⟨rfl, rfl⟩

theorem ends_any (w : World) (x : Int) (h : 0 ≤ x ∧ x < 256) : Calls Tryd.prog 53 #[.int .u8 x] w fun e w' => e = .returned (.bool (enN x)) ∧ w' = w := by
  have HS := bspace_any w x h
  by_cases h1 : x = 47
  · subst h1
    clear HS
    go_enter Tryd.func53, Tryd.ntmps53
    go_wp2
    go_ret
    exact ⟨rfl, rfl⟩
  by_cases h2 : x = 62
  · subst h2
    clear HS
    go_enter Tryd.func53, Tryd.ntmps53
    go_wp2
    go_ret
    exact ⟨rfl, rfl⟩
  · have b1 : (x == 47) = false := by simpa using h1
    have b2 : (x == 62) = false := by simpa using h2
    rw [show enN x = isSp x by unfold enN; rw [b1, b2]; simp]
    clear h1 h2
    go_enter Tryd.func53, Tryd.ntmps53
    go_wp2_with fail
    refine HS.mono ?_
    rintro e w1 ⟨rfl, rfl⟩
    clear HS
    go_wp2
    go_ret
    exact ⟨rfl, rfl⟩

theorem ref_place_any (w : World) (s : ByteArray) (p : Int) : Calls Tryd.prog 48 #[.string s, .int .i64 p] w fun e w' => e = .returned (.int .i64 (pl s.size p : Int)) ∧ w' = w := by
  by_cases h : p < 0
  · rw [pl_lo h]
    go_enter Tryd.func48, Tryd.ntmps48
    go_wp2
    go_ret
    exact ⟨rfl, rfl⟩
  · by_cases h2 : (s.size : Int) < p
    · rw [pl_hi h2]
      go_enter Tryd.func48, Tryd.ntmps48
      go_wp2
      go_ret
      exact ⟨rfl, rfl⟩
    · rw [pl_in h h2]
      go_enter Tryd.func48, Tryd.ntmps48
      go_wp2
      go_ret
      exact ⟨rfl, rfl⟩

/-- No more of a text than m bytes. -/
theorem cut_any (w : World) (s : ByteArray) (m : Nat) (hm : m ≤ 1000) : Calls Tryd.prog 11 #[.string s, .int .i64 (m : Int)] w fun e w' => e = .returned (.string (if m < s.size then s.extract 0 m else s)) ∧ w' = w := by
  by_cases h : m < s.size
  · rw [if_pos h]
    go_enter Tryd.func11, Tryd.ntmps11
    go_wp2
    go_ret
    exact ⟨rfl, rfl⟩
  · rw [if_neg h]
    go_enter Tryd.func11, Tryd.ntmps11
    go_wp2
    go_ret
    exact ⟨rfl, rfl⟩

theorem cut_size (s : ByteArray) (m : Nat) : (if m < s.size then s.extract 0 m else s).size ≤ m := by
  split
  · simp
    omega
  · omega

/-- A number brought into the range from 0 to m. -/
def wi (n : Int) (m : Nat) : Nat := (if n.tmod ((m : Int) + 1) < 0 then n.tmod ((m : Int) + 1) + ((m : Int) + 1) else n.tmod ((m : Int) + 1)).toNat

theorem wi_le (n : Int) (m : Nat) : wi n m ≤ m := by
  have t1 : n.tmod ((m : Int) + 1) < (m : Int) + 1 := Int.tmod_lt_of_pos n (by omega)
  have t2 : -((m : Int) + 1) < n.tmod ((m : Int) + 1) := Int.lt_tmod_of_pos n (by omega)
  unfold wi
  split <;> omega

/-- Within, of any range of places. -/
theorem within_any (w : World) (n : Int) (lo hi : Nat) (hl : lo ≤ hi) (hm : hi ≤ 1099511627776) : Calls Tryd.prog 13 #[.int .i64 n, .int .i64 (lo : Int), .int .i64 (hi : Int)] w fun e w' => e = .returned (.int .i64 ((lo + wi n (hi - lo) : Nat) : Int)) ∧ w' = w := by
  have e1 : (hi : Int) - (lo : Int) + 1 = ((hi - lo : Nat) : Int) + 1 := by omega
  have t1 : n.tmod ((hi : Int) - lo + 1) < (hi : Int) - lo + 1 := Int.tmod_lt_of_pos n (by omega)
  have t2 : -((hi : Int) - lo + 1) < n.tmod ((hi : Int) - lo + 1) := Int.lt_tmod_of_pos n (by omega)
  by_cases h : n.tmod ((hi : Int) - lo + 1) < 0
  · have hw : ((lo + wi n (hi - lo) : Nat) : Int) = hi + 1 + n.tmod ((hi : Int) - lo + 1) := by
      unfold wi
      rw [← e1, if_pos h]
      omega
    rw [hw]
    clear hw e1
    go_enter Tryd.func13, Tryd.ntmps13
    go_wp2
    go_ret
    refine ⟨?_, rfl⟩
    show Ending.returned (.int .i64 _) = _
    congr 2
    omega
  · have hw : ((lo + wi n (hi - lo) : Nat) : Int) = lo + n.tmod ((hi : Int) - lo + 1) := by
      unfold wi
      rw [← e1, if_neg h]
      omega
    rw [hw]
    clear hw e1
    go_enter Tryd.func13, Tryd.ntmps13
    go_wp2
    go_ret
    exact ⟨rfl, rfl⟩

end Go.Proofs.YtgebdaanglmnnaaDoor
