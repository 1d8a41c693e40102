/-
  The laws' same.
-/
import Derived.Test.YthdlmglnieomeaaKnows
import Derived.Test.YthdlmglnieomeaaRefRead
namespace Go.Proofs.Ythdlmglnieomeaa
open Go.RowKit Utf
set_option linter.unusedVariables false

set_option maxHeartbeats 1000000 in
set_option maxRecDepth 100000 in
theorem same_law (w : World) (s : ByteArray) (a : Int) (b : Bool) (hs : s.size ≤ 100000) : Calls Try.prog 7 #[.string s, .int .i64 a, .bool b] w fun e w' => e = .returned (.bool true) ∧ Kp [] w w' := by
  have H1 := read_any w s a b hs
  have H2 := fun W => ref_read_any W s a b hs
  generalize mkF s a b = T at H1 H2
  obtain ⟨⟨k, x, y⟩, m, ok⟩ := T
  unfold rv mv at H1 H2
  simp only at H1 H2
  have H3 := fun W => book_tsame_any W k k x x y y [] [] false false none none 0 0 0 0 (rp_none W) (rp_none W) (by omega) (by omega)
  rw [decide_eq_true rfl] at H3
  unfold tv at H3
  go_enter Try.func7, Try.ntmps7
  go_wp2_with fail
  refine H1.mono ?_
  rintro e w1 ⟨rfl, k1⟩
  clear H1
  have A1 := At.new w1 #[.int .i64 k, .string x, .slice none 0 0, .bool false, .string y] 32
  have k2 := k1.alloc (.cells #[.int .i64 k, .string x, .slice none 0 0, .bool false, .string y] 32)
  clear k1
  go_wp2_with fail
  generalize w1.alloc (.cells #[.int .i64 k, .string x, .slice none 0 0, .bool false, .string y] 32) = W at A1 k2 ⊢
  generalize w1.heap.size = g at A1 ⊢
  refine (H2 _).mono ?_
  rintro e w2 ⟨rfl, k3⟩
  clear H2
  have k4 := (Kp.refl [] w2).alloc (.cells #[.int .i64 k, .string x, .slice none 0 0, .bool false, .string y] 32)
  have A4 := (A1.kept k3 (by simp)).kept k4 (by simp)
  have A5 := At.new w2 #[.int .i64 k, .string x, .slice none 0 0, .bool false, .string y] 32
  have k5 := (k2.trans k3 (fun z hz => by simp at hz)).trans k4 (fun z hz => by simp at hz)
  obtain ⟨x0, x1, x2, x3, x4⟩ := A4.cells5
  obtain ⟨y0, y1, y2, y3, y4⟩ := A5.cells5
  clear A1 A4 A5 k2 k3 k4
  go_wp2_with fail
  refine (H3 _).mono ?_
  rintro e w3 ⟨rfl, k6⟩
  have k7 := k5.trans k6 (fun z hz => by simp at hz)
  clear H3 x0 x1 x2 x3 x4 y0 y1 y2 y3 y4 k5 k6
  go_wp2
  go_ret
  refine ⟨?_, k7⟩
  simp

end Go.Proofs.Ythdlmglnieomeaa
