/-
  The walks of NamesTells and NamesNumbers: whatever they are given, they answer true, and leave what was there as it was.
-/
import Derived.Test.YtpapdcnkbfmcpaaAgree
namespace Go.Proofs.Ytpapdcnkbfmcpaa
open Go.RowKit

set_option maxHeartbeats 1000000 in
theorem tells_any (w : World) (ns : Int) (s0 : ByteArray) (i : Int) : Calls Try.prog 4 #[.int .i64 ns, .string s0, .int .i64 i] w fun e w' => e = .returned (.bool true) ∧ Kp [] w w' := by
  have hsz := cut_size s0 60
  go_enter Try.func4, Try.ntmps4
  go_wp2_with fail
  refine (cut_any _ s0 60 (by omega)).mono ?_
  rintro e w' ⟨rfl, rfl⟩
  generalize (if 60 < s0.size then s0.extract 0 60 else s0) = s at hsz ⊢
  go_wp2_with fail
  refine (names_any _ i).mono ?_
  rintro e w1 ⟨x, rfl, hx, k1⟩
  go_wp2_with fail
  refine (from_back (same_any _ ns s (by omega)) k1).mono ?_
  rintro e w2 ⟨rfl, k2⟩
  clear k1
  go_wp2_with fail
  refine (within_any _ ns 3 (by omega)).mono ?_
  rintro e w' ⟨rfl, rfl⟩
  go_wp2_with fail
  refine (from_back (same_any _ _ x (by omega)) k2).mono ?_
  rintro e w3 ⟨rfl, k3⟩
  clear k2
  have hxs : (x ++ s).size ≤ 1000 := by simp; omega
  go_wp2_with fail
  refine (from_back (same_any _ ns (x ++ s) hxs) k3).mono ?_
  rintro e w4 ⟨rfl, k4⟩
  clear k3
  go_wp2_with fail
  refine (known_any _).mono ?_
  rintro e w' ⟨rfl, rfl⟩
  go_wp2
  go_ret
  exact ⟨rfl, k4⟩

end Go.Proofs.Ytpapdcnkbfmcpaa
