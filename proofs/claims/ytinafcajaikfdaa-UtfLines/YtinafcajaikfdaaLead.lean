/-
  What a lead byte asks: the program's behind, and the document's first.
-/
import Derived.Test.YtinafcajaikfdaaBase
import Derived.OwnWalk
namespace Go.Proofs.Ytinafcajaikfdaa
open Go.RowKit Utf

/-- What is told of a lead byte: how many follow (d where it leads nothing), and the bounds of the first of them. -/
def leadV (d b : Int) : Value :=
  match firstOf b with
  | none => .tuple #[.int .i64 d, .int .u8 0, .int .u8 0]
  | some (n, lo, hi) => .tuple #[.int .i64 (n : Int), .int .u8 lo, .int .u8 hi]

/-- The kinds of lead bytes. -/
theorem lead_cases (b : Int) (h0 : 0 ≤ b) (h1 : b < 256) : (194 ≤ b ∧ b ≤ 223 ∧ firstOf b = (some (1, 128, 191))) ∨ (b = 224 ∧ firstOf b = (some (2, 160, 191))) ∨ (b = 237 ∧ firstOf b = (some (2, 128, 159))) ∨ (225 ≤ b ∧ b ≤ 236 ∧ firstOf b = (some (2, 128, 191))) ∨ (238 ≤ b ∧ b ≤ 239 ∧ firstOf b = (some (2, 128, 191))) ∨ (b = 240 ∧ firstOf b = (some (3, 144, 191))) ∨ (241 ≤ b ∧ b ≤ 243 ∧ firstOf b = (some (3, 128, 191))) ∨ (b = 244 ∧ firstOf b = (some (3, 128, 143))) ∨ (0 ≤ b ∧ b < 194 ∧ firstOf b = none) ∨ (244 < b ∧ b < 256 ∧ firstOf b = none) := by
  unfold firstOf
  by_cases c1 : 194 ≤ b ∧ b ≤ 223
  · rw [if_pos c1]; simp; omega
  rw [if_neg c1]
  by_cases c2 : b = 224
  · rw [if_pos c2]; simp; omega
  rw [if_neg c2]
  by_cases c3 : b = 237
  · rw [if_pos c3]; simp; omega
  rw [if_neg c3]
  by_cases c4 : 225 ≤ b ∧ b ≤ 239
  · rw [if_pos c4]; simp; omega
  rw [if_neg c4]
  by_cases c5 : b = 240
  · rw [if_pos c5]; simp; omega
  rw [if_neg c5]
  by_cases c6 : 241 ≤ b ∧ b ≤ 243
  · rw [if_pos c6]; simp; omega
  rw [if_neg c6]
  by_cases c7 : b = 244
  · rw [if_pos c7]; simp; omega
  rw [if_neg c7]
  simp
  omega

set_option maxHeartbeats 4000000 in
set_option maxRecDepth 100000 in
theorem behind_any (w : World) (b : Int) (h0 : 0 ≤ b) (h1 : b < 256) : Calls Try.prog 30 #[.int .u8 b] w fun e w' => e = .returned (leadV 0 b) ∧ w' = w := by
  rcases lead_cases b h0 h1 with ⟨c1, c2, hf⟩ | ⟨rfl, hf⟩ | ⟨rfl, hf⟩ | ⟨c1, c2, hf⟩ | ⟨c1, c2, hf⟩ | ⟨rfl, hf⟩ | ⟨c1, c2, hf⟩ | ⟨rfl, hf⟩ | ⟨c1, c2, hf⟩ | ⟨c1, c2, hf⟩
  all_goals
    unfold leadV
    rw [hf]
    clear hf
    go_enter Try.func30, Try.ntmps30
    go_wp2
    go_ret3
    exact ⟨by simp, rfl⟩

set_option maxHeartbeats 4000000 in
set_option maxRecDepth 100000 in
theorem ref_first_any (w : World) (b : Int) (h0 : 0 ≤ b) (h1 : b < 256) : Calls Try.prog 26 #[.int .u8 b] w fun e w' => e = .returned (leadV (-1) b) ∧ w' = w := by
  rcases lead_cases b h0 h1 with ⟨c1, c2, hf⟩ | ⟨rfl, hf⟩ | ⟨rfl, hf⟩ | ⟨c1, c2, hf⟩ | ⟨c1, c2, hf⟩ | ⟨rfl, hf⟩ | ⟨c1, c2, hf⟩ | ⟨rfl, hf⟩ | ⟨c1, c2, hf⟩ | ⟨c1, c2, hf⟩
  all_goals
    unfold leadV
    rw [hf]
    clear hf
    go_enter Try.func26, Try.ntmps26
    go_wp2
    go_ret3
    exact ⟨by simp, rfl⟩

end Go.Proofs.Ytinafcajaikfdaa
