/-
  The laws' known and same: program and document tell the same, of any text and place.
-/
import Derived.Test.YtdakgkkcikmcnaaDoorWhole
namespace Go.Proofs.YtdakgkkcikmcnaaDoor
open Go.RowKit Utf
set_option linter.unusedVariables false

theorem known_one : allF ⟨#[38, 97, 109, 112, 59, 108, 116, 32, 38, 35, 54, 53, 59, 38, 35, 120, 52, 49, 32, 38, 35, 59]⟩ false 0 = ⟨#[38, 108, 116, 32, 65, 65, 32, 38, 35, 59]⟩ := by decide +kernel
theorem known_two : allF ⟨#[38, 110, 111, 116, 105, 116, 59]⟩ true 0 = ⟨#[38, 110, 111, 116, 105, 116, 59]⟩ := by decide +kernel

theorem known_any (w : World) (hn : Nm w) (hi : In w) : Calls Tryd.prog 9 #[] w fun e w' => e = .returned (.bool true) ∧ Kp [] w w' := by
  have H1 := all_any w hn hi ⟨#[38, 97, 109, 112, 59, 108, 116, 32, 38, 35, 54, 53, 59, 38, 35, 120, 52, 49, 32, 38, 35, 59]⟩ false (by decide)
  have H2 := fun W (kk : Kp [] w W) => all_any W (hn.kept kk) (hi.kept kk) ⟨#[38, 110, 111, 116, 105, 116, 59]⟩ true (by decide)
  rw [known_one] at H1
  rw [known_two] at H2
  clear hn hi
  go_enter Tryd.func9, Tryd.ntmps9
  go_wp2_with fail
  refine H1.mono ?_
  rintro e w1 ⟨rfl, k1⟩
  clear H1
  go_wp2_with fail
  refine (from_back (H2 _ k1) k1).mono ?_
  rintro e w2 ⟨rfl, k2⟩
  clear H2 k1
  go_wp2
  go_ret
  exact ⟨rfl, k2⟩

set_option maxHeartbeats 1000000 in
theorem same_any (w : World) (hn : Nm w) (hi : In w) (s : ByteArray) (a : Int) (attr : Bool) (hs : s.size ≤ 20000) : Calls Tryd.prog 8 #[.string s, .int .i64 a, .bool attr] w fun e w' => e = .returned (.bool true) ∧ Kp [] w w' := by
  have H1 := read_any w hn hi s a attr (by omega)
  have H2 := fun W => ref_read_any W s a attr (by omega)
  generalize rAT s a attr = t at H1 H2
  generalize rAE s a = r at H1 H2
  have H3 := fun W (kk : Kp [] w W) => all_any W (hn.kept kk) (hi.kept kk) s attr hs
  have H4 := fun W => ref_alls_any W s attr hs
  generalize allF s attr 0 = A at H3 H4
  clear hn hi
  go_enter Tryd.func8, Tryd.ntmps8
  go_wp2_with fail
  refine H1.mono ?_
  rintro e w1 ⟨rfl, k1⟩
  clear H1
  go_wp2_with fail
  refine (from_back (H2 _) k1).mono ?_
  rintro e w2 ⟨rfl, k2⟩
  clear H2 k1
  go_wp2_with fail
  refine (from_back (H3 _ k2) k2).mono ?_
  rintro e w3 ⟨rfl, k3⟩
  clear H3 k2
  go_wp2_with fail
  refine (from_back (H4 _) k3).mono ?_
  rintro e w4 ⟨rfl, k4⟩
  clear H4 k3
  go_wp2
  go_ret
  exact ⟨rfl, k4⟩

end Go.Proofs.YtdakgkkcikmcnaaDoor
