/-
  The document's Right.
-/
import Derived.Test.YtpjkpobdkmcedaaDoorRrefB
import Derived.Test.YtpjkpobdkmcedaaDoorRrefC
import Derived.Test.YtpjkpobdkmcedaaDoorRrefD
import Derived.Test.YtpjkpobdkmcedaaDoorRrefE
namespace Go.Proofs.YtpjkpobdkmcedaaDoor
open Go.RowKit
set_option linter.unusedVariables false
set_option linter.unusedSimpArgs false

theorem rref_any (w : World) (o : Ot) (p : Sl) (h : At w (o, p)) (hl : p.2.1 ≤ 100000) :
    Calls Tryd.prog 9 #[ov o p] w fun e w' => e = .returned (.bool (rightO o)) ∧ Kp [] w w' := by
  have hq : p.2.1 = o.al.length := Rp.len h
  obtain ⟨a1, a2, a3, a4, a5, a6, a7, a8, a9⟩ := o
  obtain ⟨p1, p2, p3⟩ := p
  by_cases hk : 1 ≤ a1 ∧ a1 ≤ 11
  · obtain rfl | rfl | rfl | rfl | rfl | rfl | rfl | rfl | rfl | rfl | rfl : a1 = 1 ∨ a1 = 2 ∨ a1 = 3 ∨ a1 = 4 ∨ a1 = 5 ∨ a1 = 6 ∨ a1 = 7 ∨ a1 = 8 ∨ a1 = 9 ∨ a1 = 10 ∨ a1 = 11 := by omega
    · exact rref_1 w a2 a3 a4 a5 a6 a7 a8 a9 p1 p2 p3 hq hl
    · exact rref_2 w a2 a3 a4 a5 a6 a7 a8 a9 p1 p2 p3 hq hl
    · exact rref_3 w a2 a3 a4 a5 a6 a7 a8 a9 p1 p2 p3 hq hl
    · exact rref_4 w a2 a3 a4 a5 a6 a7 a8 a9 p1 p2 p3 hq hl
    · exact rref_5 w a2 a3 a4 a5 a6 a7 a8 a9 p1 p2 p3 hq hl
    · exact rref_6 w a2 a3 a4 a5 a6 a7 a8 a9 p1 p2 p3 hq hl
    · exact rref_7 w a2 a3 a4 a5 a6 a7 a8 a9 p1 p2 p3 hq hl
    · exact rref_8 w a2 a3 a4 a5 a6 a7 a8 a9 p1 p2 p3 hq hl
    · exact rref_9 w a2 a3 a4 a5 a6 a7 a8 a9 p1 p2 p3 hq hl
    · exact rref_10 w a2 a3 a4 a5 a6 a7 a8 a9 p1 p2 p3 hq hl
    · exact rref_11 w a2 a3 a4 a5 a6 a7 a8 a9 p1 p2 p3 hq hl
  · have hn : ∀ k : Int, 1 ≤ k → k ≤ 11 → (a1 == k) = false := fun k h1 h2 => by simp; omega
    exact rref_no w a1 a2 a3 a4 a5 a6 a7 a8 a9 p1 p2 p3 hq hl (hn 1 (by omega) (by omega)) (hn 2 (by omega) (by omega)) (hn 3 (by omega) (by omega)) (hn 4 (by omega) (by omega)) (hn 5 (by omega) (by omega)) (hn 6 (by omega) (by omega)) (hn 7 (by omega) (by omega)) (hn 8 (by omega) (by omega)) (hn 9 (by omega) (by omega)) (hn 10 (by omega) (by omega)) (hn 11 (by omega) (by omega))

end Go.Proofs.YtpjkpobdkmcedaaDoor
