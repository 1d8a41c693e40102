/-
  Raw of the program and of the document.
-/
import Derived.Test.YtfobbgmfbpoigaaAgree
namespace Go.Proofs.Ytfobbgmfbpoigaa
open Go.RowKit Utf
set_option linter.unusedSimpArgs false

set_option maxHeartbeats 4000000 in
theorem raw_any (w : World) (s : ByteArray) (b : Bool) : Calls Try.prog 26 #[.string s, .bool b] w fun e w' => e = .returned (.int .i64 (raw s b)) ∧ w' = w := by
  cases b
  all_goals
    go_enter Try.func26, Try.ntmps26
    go_wp2
    all_goals go_ret
    all_goals refine ⟨?_, rfl⟩
    all_goals first
      | (rename_i h1 h2; exact absurd (h1.symm.trans h2) (by decide))
      | (simp [raw, has, RCD, RWT, NOS, PLN, *]; done)
      | (exfalso; simp_all; done)

set_option maxHeartbeats 4000000 in
theorem ref_raw_any (w : World) (s : ByteArray) (b : Bool) : Calls Try.prog 18 #[.string s, .bool b] w fun e w' => e = .returned (.int .i64 (raw s b)) ∧ w' = w := by
  cases b
  all_goals
    go_enter Try.func18, Try.ntmps18
    go_wp2
    all_goals go_ret
    all_goals refine ⟨?_, rfl⟩
    all_goals first
      | (rename_i h1 h2; exact absurd (h1.symm.trans h2) (by decide))
      | (simp [raw, has, RCD, RWT, NOS, PLN, *]; done)
      | (exfalso; simp_all; done)
      | (simp_all [raw, has, RCD, RWT, NOS, PLN]; done)

end Go.Proofs.Ytfobbgmfbpoigaa
