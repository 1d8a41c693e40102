/-
  The rest of the program's kinds: Thorough, Point, Bound, Special, Breakout, Fix and Raw, of any name.
-/
import Derived.Test.YtpapdcnkbfmcpaaKinds
import Derived.Test.YtpapdcnkbfmcpaaClone
namespace Go.Proofs.Ytpapdcnkbfmcpaa
open Go.RowKit

set_option maxHeartbeats 4000000 in
theorem thorough_any (w : World) (s : ByteArray) : Calls Try.prog 17 #[.string s] w fun e w' => e = .returned (.bool (thorough s)) ∧ w' = w := by
  go_enter Try.func17, Try.ntmps17
  go_wp2_with (go_at_call 16; refine (impl_any _ _).mono ?_; rintro e w2 ⟨rfl, rfl⟩)
  all_goals go_ret
  all_goals refine ⟨?_, rfl⟩
  all_goals first
    | (rename_i h1 h2; exact absurd (h1.symm.trans h2) (by decide))
    | (unfold thorough; generalize has IMPL s = i; simp [has, PARTS, *])

set_option maxHeartbeats 4000000 in
theorem breakout_any (w : World) (s : ByteArray) : Calls Try.prog 32 #[.string s] w fun e w' => e = .returned (.bool (breakout s)) ∧ w' = w := by
  go_enter Try.func32, Try.ntmps32
  go_wp2_with (go_at_call 13; refine (head_any _ _).mono ?_; rintro e w2 ⟨rfl, rfl⟩)
  all_goals go_ret
  all_goals refine ⟨?_, rfl⟩
  all_goals first
    | (rename_i h1 h2; exact absurd (h1.symm.trans h2) (by decide))
    | (unfold breakout; generalize has HEAD s = i; simp [has, BREAK, *])

set_option maxHeartbeats 4000000 in
theorem point_any (w : World) (ns : Int) (s : ByteArray) : Calls Try.prog 18 #[.int .i64 ns, .string s] w fun e w' => e = .returned (.bool (point ns s)) ∧ w' = w := by
  by_cases hn : ns = 2
  · subst hn
    go_enter Try.func18, Try.ntmps18
    go_wp2
    all_goals go_ret
    all_goals refine ⟨?_, rfl⟩
    all_goals first
      | (rename_i h1 h2; exact absurd (h1.symm.trans h2) (by decide))
      | simp [point, has, POINT, *]
  · have h1 : (ns != 2) = true := by simpa using hn
    have h2 : point ns s = false := by simp [point, hn]
    rw [h2]
    clear h2
    go_enter Try.func18, Try.ntmps18
    go_wp2
    go_ret
    exact ⟨rfl, rfl⟩

set_option maxHeartbeats 4000000 in
theorem bound_any (w : World) (ns : Int) (s : ByteArray) : Calls Try.prog 19 #[.int .i64 ns, .string s] w fun e w' => e = .returned (.bool (bound ns s)) ∧ w' = w := by
  by_cases hn : ns = 1
  · subst hn
    rw [show bound 1 s = has BOUND s from rfl]
    go_enter Try.func19, Try.ntmps19
    go_wp2
    all_goals go_ret
    all_goals refine ⟨?_, rfl⟩
    all_goals first
      | (rename_i h1 h2; exact absurd (h1.symm.trans h2) (by decide))
      | simp [has, BOUND, *]
  · have h1 : (ns != 1) = true := by simpa using hn
    rw [show bound ns s = point ns s by simp [bound, hn]]
    have H := point_any w ns s
    generalize point ns s = p at H
    go_enter Try.func19, Try.ntmps19
    go_wp2_with fail
    refine H.mono ?_
    rintro e w2 ⟨rfl, rfl⟩
    go_wp2
    go_ret
    exact ⟨rfl, rfl⟩

set_option maxHeartbeats 4000000 in
theorem special_any (w : World) (ns : Int) (s : ByteArray) : Calls Try.prog 15 #[.int .i64 ns, .string s] w fun e w' => e = .returned (.bool (special ns s)) ∧ w' = w := by
  by_cases hn : ns = 1
  · subst hn
    rw [show special 1 s = (has BLOCK s || (has HEAD s || (has VOID s || has BESIDE s))) by simp only [special, if_true, SPECIAL, has_append]]
    have H1 := block_any w s
    have H2 := head_any w s
    have H3 := void_any w s
    have H4 := beside_any w s
    generalize has BLOCK s = b1 at H1
    generalize has HEAD s = b2 at H2
    generalize has VOID s = b3 at H3
    generalize has BESIDE s = b4 at H4
    cases b1 <;> cases b2 <;> cases b3
    all_goals
      go_enter Try.func15, Try.ntmps15
      go_wp2_with (first
        | (go_at_call 12; refine H1.mono ?_; rintro e w2 ⟨rfl, rfl⟩)
        | (go_at_call 13; refine H2.mono ?_; rintro e w2 ⟨rfl, rfl⟩)
        | (go_at_call 14; refine H3.mono ?_; rintro e w2 ⟨rfl, rfl⟩)
        | (go_at_call 36; refine H4.mono ?_; rintro e w2 ⟨rfl, rfl⟩))
      go_ret
      exact ⟨by simp, rfl⟩
  · have h1 : (ns != 1) = true := by simpa using hn
    rw [show special ns s = point ns s by simp [special, hn]]
    have H := point_any w ns s
    generalize point ns s = p at H
    go_enter Try.func15, Try.ntmps15
    go_wp2_with fail
    refine H.mono ?_
    rintro e w2 ⟨rfl, rfl⟩
    go_wp2
    go_ret
    exact ⟨rfl, rfl⟩

set_option maxHeartbeats 4000000 in
theorem fix_any (w : World) (s : ByteArray) (hs : s.size ≤ 1000000) : Calls Try.prog 20 #[.string s] w fun e w' => e = .returned (.string (fix s)) ∧ Kp [] w w' := by
  have HC := clone_any w s hs
  clear hs
  go_enter Try.func20, Try.ntmps20
  go_wp2_with (go_at_call 37; refine HC.mono ?_; rintro e w2 ⟨rfl, k2⟩)
  all_goals go_ret
  all_goals first
    | exact ⟨by simp [fix, fixIn, FROM, TO, txt, *], Kp.refl _ _⟩
    | exact ⟨by simp [fix, fixIn, FROM, TO, *], k2⟩

set_option maxHeartbeats 4000000 in
theorem raw_any (w : World) (s : ByteArray) (b : Bool) : Calls Try.prog 21 #[.string s, .bool b] w fun e w' => e = .returned (.int .i64 (raw s b)) ∧ w' = w := by
  cases b
  all_goals
    go_enter Try.func21, Try.ntmps21
    go_wp2
    all_goals go_ret
    all_goals refine ⟨?_, rfl⟩
    all_goals first
      | (rename_i h1 h2; exact absurd (h1.symm.trans h2) (by decide))
      | (simp [raw, has, RCD, RWT, NOS, PLN, *]; done)
      | (exfalso; simp_all; done)

set_option maxHeartbeats 4000000 in
theorem ref_raw_any (w : World) (s : ByteArray) (b : Bool) : Calls Try.prog 35 #[.string s, .bool b] w fun e w' => e = .returned (.int .i64 (raw s b)) ∧ w' = w := by
  cases b
  all_goals
    go_enter Try.func35, Try.ntmps35
    go_wp2
    all_goals go_ret
    all_goals refine ⟨?_, rfl⟩
    all_goals first
      | (rename_i h1 h2; exact absurd (h1.symm.trans h2) (by decide))
      | (simp [raw, has, RCD, RWT, NOS, PLN, *]; done)
      | (exfalso; simp_all; done)
      | (simp_all [raw, has, RCD, RWT, NOS, PLN]; done)
end Go.Proofs.Ytpapdcnkbfmcpaa
