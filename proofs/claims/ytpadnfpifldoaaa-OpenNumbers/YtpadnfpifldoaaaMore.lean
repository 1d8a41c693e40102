/-
  The rest of the program's kinds: Thorough, Point, Bound, Special, Breakout, Fix and Raw, of any name.
-/
import Derived.Test.YtpadnfpifldoaaaKinds
namespace Go.Proofs.Ytpadnfpifldoaaa
open Go.RowKit

set_option maxHeartbeats 4000000 in
theorem thorough_any (w : World) (s : ByteArray) : Calls Try.prog 61 #[.string s] w fun e w' => e = .returned (.bool (thorough s)) ∧ w' = w := by
  go_enter Try.func61, Try.ntmps61
  go_wp2_with (go_at_call 59; refine (impl_any _ _).mono ?_; rintro e w2 ⟨rfl, rfl⟩)
  all_goals go_ret
  all_goals refine ⟨?_, rfl⟩
  all_goals first
    | (rename_i h1 h2; exact absurd (h1.symm.trans h2) (by decide))
    | (unfold thorough; generalize has IMPL s = i; simp [has, PARTS, *])


set_option maxHeartbeats 4000000 in
theorem point_any (w : World) (ns : Int) (s : ByteArray) : Calls Try.prog 81 #[.int .i64 ns, .string s] w fun e w' => e = .returned (.bool (point ns s)) ∧ w' = w := by
  by_cases hn : ns = 2
  · subst hn
    go_enter Try.func81, Try.ntmps81
    go_wp2
    all_goals go_ret
    all_goals refine ⟨?_, rfl⟩
    all_goals first
      | (rename_i h1 h2; exact absurd (h1.symm.trans h2) (by decide))
      | simp [point, has, POINT, *]
  · have h1 : (ns != 2) = true := by simpa using hn
    have h2 : point ns s = false := by simp [point, hn]
    rw [h2]
    clear h2
    go_enter Try.func81, Try.ntmps81
    go_wp2
    go_ret
    exact ⟨rfl, rfl⟩

set_option maxHeartbeats 4000000 in
theorem bound_any (w : World) (ns : Int) (s : ByteArray) : Calls Try.prog 74 #[.int .i64 ns, .string s] w fun e w' => e = .returned (.bool (bound ns s)) ∧ w' = w := by
  by_cases hn : ns = 1
  · subst hn
    rw [show bound 1 s = has BOUND s from rfl]
    go_enter Try.func74, Try.ntmps74
    go_wp2
    all_goals go_ret
    all_goals refine ⟨?_, rfl⟩
    all_goals first
      | (rename_i h1 h2; exact absurd (h1.symm.trans h2) (by decide))
      | simp [has, BOUND, *]
  · have h1 : (ns != 1) = true := by simpa using hn
    rw [show bound ns s = point ns s by simp [bound, hn]]
    have H := point_any w ns s
    generalize point ns s = p at H
    go_enter Try.func74, Try.ntmps74
    go_wp2_with fail
    refine H.mono ?_
    rintro e w2 ⟨rfl, rfl⟩
    go_wp2
    go_ret
    exact ⟨rfl, rfl⟩




end Go.Proofs.Ytpadnfpifldoaaa
