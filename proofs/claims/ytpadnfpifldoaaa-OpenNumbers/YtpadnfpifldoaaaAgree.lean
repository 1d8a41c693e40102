/-
  Within, Head and Names; same and known: the program and the document tell alike, of any name.
-/
import Derived.Test.YtpadnfpifldoaaaRef
namespace Go.Proofs.Ytpadnfpifldoaaa
open Go.RowKit


theorem cut_size (s : ByteArray) (m : Nat) : (if m < s.size then s.extract 0 m else s).size ≤ m := by
  split
  · simp
    omega
  · omega

/-- A number brought into the range from 0 to m. -/
def wi (n : Int) (m : Nat) : Nat := (if n.tmod ((m : Int) + 1) < 0 then n.tmod ((m : Int) + 1) + ((m : Int) + 1) else n.tmod ((m : Int) + 1)).toNat

theorem wi_le (n : Int) (m : Nat) : wi n m ≤ m := by
  have t1 : n.tmod ((m : Int) + 1) < (m : Int) + 1 := Int.tmod_lt_of_pos n (by omega)
  have t2 : -((m : Int) + 1) < n.tmod ((m : Int) + 1) := Int.lt_tmod_of_pos n (by omega)
  unfold wi
  split <;> omega

theorem within_any (w : World) (n : Int) (m : Nat) (hm : m ≤ 2000000) : Calls Try.prog 23 #[.int .i64 n, .int .i64 0, .int .i64 (m : Int)] w fun e w' => e = .returned (.int .i64 (wi n m : Int)) ∧ w' = w := by
  have t1 : n.tmod ((m : Int) + 1) < (m : Int) + 1 := Int.tmod_lt_of_pos n (by omega)
  have t2 : -((m : Int) + 1) < n.tmod ((m : Int) + 1) := Int.lt_tmod_of_pos n (by omega)
  by_cases h : n.tmod ((m : Int) + 1) < 0
  · have hw : (wi n m : Int) = n.tmod ((m : Int) + 1) + ((m : Int) + 1) := by
      unfold wi
      rw [if_pos h]
      omega
    rw [hw]
    clear hw
    go_enter Try.func23, Try.ntmps23
    go_wp2
    go_ret
    refine ⟨?_, rfl⟩
    show Ending.returned (.int .i64 _) = _
    congr 2
    omega
  · have hw : (wi n m : Int) = n.tmod ((m : Int) + 1) := by
      unfold wi
      rw [if_neg h]
      omega
    rw [hw]
    clear hw
    go_enter Try.func23, Try.ntmps23
    go_wp2
    go_ret
    refine ⟨?_, rfl⟩
    show Ending.returned (.int .i64 _) = _
    congr 2


def NAMES : List (List UInt8) := [[112], [98], [105], [97], [100, 105, 118], [116, 97, 98, 108, 101], [116, 114], [116, 100], [116, 98, 111, 100, 121], [108, 105], [117, 108], [115, 118, 103], [116, 101, 109, 112, 108, 97, 116, 101], [102, 111, 114, 109], [98, 117, 116, 116, 111, 110], [110, 111, 98, 114], [104, 49], [104, 50], [98, 114], [116, 105, 116, 108, 101], [116, 101, 120, 116, 97, 114, 101, 97], [115, 116, 121, 108, 101], [115, 99, 114, 105, 112, 116], [112, 114, 101], [111, 98, 106, 101, 99, 116], [100, 100], [100, 116], [98, 111, 100, 121], [104, 116, 109, 108], [104, 101, 97, 100], [102, 111, 114, 101, 105, 103, 110, 111, 98, 106, 101, 99, 116], [100, 101, 115, 99], [115, 112, 97, 110], [102, 111, 110, 116], [116, 104], [116, 104, 101, 97, 100], [105, 110, 112, 117, 116], [104, 114], [120, 109, 112], [112, 108, 97, 105, 110, 116, 101, 120, 116], [110, 111, 115, 99, 114, 105, 112, 116], [105, 109, 103], [105, 109, 97, 103, 101], [108, 105, 110, 107], [97, 100, 100, 114, 101, 115, 115], [97, 112, 112, 108, 101, 116], [101, 109], [115, 101, 108, 101, 99, 116]]
theorem names_len : (NAMES.map txt).length = 48 := by kernel_rfl
theorem names_size : ∀ x, x ∈ NAMES.map txt → x.size ≤ 13 := by decide +kernel

end Go.Proofs.Ytpadnfpifldoaaa
