/-
  The program's switches: what each answers, of any name.
-/
import Derived.Test.YtpadnfpifldoaaaBase
import Derived.Test.YtpadnfpifldoaaaWords
namespace Go.Proofs.Ytpadnfpifldoaaa
open Go.RowKit






set_option maxHeartbeats 4000000 in
theorem impl_any (w : World) (s : ByteArray) : Calls Try.prog 59 #[.string s] w fun e w' => e = .returned (.bool (has IMPL s)) ∧ w' = w := by
  go_enter Try.func59, Try.ntmps59
  go_wp2
  all_goals go_ret
  all_goals refine ⟨?_, rfl⟩
  all_goals first
    | (rename_i h1 h2; exact absurd (h1.symm.trans h2) (by decide))
    | simp [has, IMPL, *]
end Go.Proofs.Ytpadnfpifldoaaa
