/-
  The program's switches: what each answers, of any name.
-/
import Derived.Test.YtpapdcnkbfmcpaaBase
import Derived.Test.YtpapdcnkbfmcpaaWords
namespace Go.Proofs.Ytpapdcnkbfmcpaa
open Go.RowKit

set_option maxHeartbeats 4000000 in
theorem void_any (w : World) (s : ByteArray) : Calls Try.prog 14 #[.string s] w fun e w' => e = .returned (.bool (has VOID s)) ∧ w' = w := by
  go_enter Try.func14, Try.ntmps14
  go_wp2
  all_goals go_ret
  all_goals refine ⟨?_, rfl⟩
  all_goals first
    | (rename_i h1 h2; exact absurd (h1.symm.trans h2) (by decide))
    | simp [has, VOID, *]

set_option maxHeartbeats 4000000 in
theorem form_any (w : World) (s : ByteArray) : Calls Try.prog 22 #[.string s] w fun e w' => e = .returned (.bool (has FORM s)) ∧ w' = w := by
  go_enter Try.func22, Try.ntmps22
  go_wp2
  all_goals go_ret
  all_goals refine ⟨?_, rfl⟩
  all_goals first
    | (rename_i h1 h2; exact absurd (h1.symm.trans h2) (by decide))
    | simp [has, FORM, *]

set_option maxHeartbeats 4000000 in
theorem head_any (w : World) (s : ByteArray) : Calls Try.prog 13 #[.string s] w fun e w' => e = .returned (.bool (has HEAD s)) ∧ w' = w := by
  go_enter Try.func13, Try.ntmps13
  go_wp2
  all_goals go_ret
  all_goals refine ⟨?_, rfl⟩
  all_goals first
    | (rename_i h1 h2; exact absurd (h1.symm.trans h2) (by decide))
    | simp [has, HEAD, *]

set_option maxHeartbeats 4000000 in
theorem block_any (w : World) (s : ByteArray) : Calls Try.prog 12 #[.string s] w fun e w' => e = .returned (.bool (has BLOCK s)) ∧ w' = w := by
  go_enter Try.func12, Try.ntmps12
  go_wp2
  all_goals go_ret
  all_goals refine ⟨?_, rfl⟩
  all_goals first
    | (rename_i h1 h2; exact absurd (h1.symm.trans h2) (by decide))
    | simp [has, BLOCK, *]

set_option maxHeartbeats 4000000 in
theorem beside_any (w : World) (s : ByteArray) : Calls Try.prog 36 #[.string s] w fun e w' => e = .returned (.bool (has BESIDE s)) ∧ w' = w := by
  go_enter Try.func36, Try.ntmps36
  go_wp2
  all_goals go_ret
  all_goals refine ⟨?_, rfl⟩
  all_goals first
    | (rename_i h1 h2; exact absurd (h1.symm.trans h2) (by decide))
    | simp [has, BESIDE, *]

set_option maxHeartbeats 4000000 in
theorem impl_any (w : World) (s : ByteArray) : Calls Try.prog 16 #[.string s] w fun e w' => e = .returned (.bool (has IMPL s)) ∧ w' = w := by
  go_enter Try.func16, Try.ntmps16
  go_wp2
  all_goals go_ret
  all_goals refine ⟨?_, rfl⟩
  all_goals first
    | (rename_i h1 h2; exact absurd (h1.symm.trans h2) (by decide))
    | simp [has, IMPL, *]
end Go.Proofs.Ytpapdcnkbfmcpaa
