/-
  Head and Within.
-/
import Derived.Test.YtpjkpobdkmcedaaDoorBase
namespace Go.Proofs.YtpjkpobdkmcedaaDoor
open Go.RowKit Utf

/-- No more of a text than m bytes. -/
theorem cut_any (w : World) (s : ByteArray) (m : Nat) (hm : m ≤ 1000) : Calls Tryd.prog 22 #[.string s, .int .i64 (m : Int)] w fun e w' => e = .returned (.string (if m < s.size then s.extract 0 m else s)) ∧ w' = w := by
  by_cases h : m < s.size
  · rw [if_pos h]
    go_enter Tryd.func22, Tryd.ntmps22
    go_wp2
    go_ret
    exact ⟨rfl, rfl⟩
  · rw [if_neg h]
    go_enter Tryd.func22, Tryd.ntmps22
    go_wp2
    go_ret
    exact ⟨rfl, rfl⟩

theorem cut_size (s : ByteArray) (m : Nat) : (if m < s.size then s.extract 0 m else s).size ≤ m := by
  split
  · simp
    omega
  · omega

/-- A number brought into the range from 0 to m. -/
def wi (n : Int) (m : Nat) : Nat := (if n.tmod ((m : Int) + 1) < 0 then n.tmod ((m : Int) + 1) + ((m : Int) + 1) else n.tmod ((m : Int) + 1)).toNat

theorem wi_le (n : Int) (m : Nat) : wi n m ≤ m := by
  have t1 : n.tmod ((m : Int) + 1) < (m : Int) + 1 := Int.tmod_lt_of_pos n (by omega)
  have t2 : -((m : Int) + 1) < n.tmod ((m : Int) + 1) := Int.lt_tmod_of_pos n (by omega)
  unfold wi
  split <;> omega

/-- Within, of any range of places. -/
theorem within_any (w : World) (n : Int) (lo hi : Nat) (hl : lo ≤ hi) (hm : hi ≤ 1099511627776) : Calls Tryd.prog 18 #[.int .i64 n, .int .i64 (lo : Int), .int .i64 (hi : Int)] w fun e w' => e = .returned (.int .i64 ((lo + wi n (hi - lo) : Nat) : Int)) ∧ w' = w := by
  have e1 : (hi : Int) - (lo : Int) + 1 = ((hi - lo : Nat) : Int) + 1 := by omega
  have t1 : n.tmod ((hi : Int) - lo + 1) < (hi : Int) - lo + 1 := Int.tmod_lt_of_pos n (by omega)
  have t2 : -((hi : Int) - lo + 1) < n.tmod ((hi : Int) - lo + 1) := Int.lt_tmod_of_pos n (by omega)
  by_cases h : n.tmod ((hi : Int) - lo + 1) < 0
  · have hw : ((lo + wi n (hi - lo) : Nat) : Int) = hi + 1 + n.tmod ((hi : Int) - lo + 1) := by
      unfold wi
      rw [← e1, if_pos h]
      omega
    rw [hw]
    clear hw e1
    go_enter Tryd.func18, Tryd.ntmps18
    go_wp2
    go_ret
    refine ⟨?_, rfl⟩
    show Ending.returned (.int .i64 _) = _
    congr 2
    omega
  · have hw : ((lo + wi n (hi - lo) : Nat) : Int) = lo + n.tmod ((hi : Int) - lo + 1) := by
      unfold wi
      rw [← e1, if_neg h]
      omega
    rw [hw]
    clear hw e1
    go_enter Tryd.func18, Tryd.ntmps18
    go_wp2
    go_ret
    exact ⟨rfl, rfl⟩

end Go.Proofs.YtpjkpobdkmcedaaDoor
