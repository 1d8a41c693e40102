/-
  Joined: RefRead RefReadB.
-/
import Derived.Test.YtcfaejbbjmjgpabDoorReader
import Derived.Test.YtcfaejbbjmjgpabDoorGroundB
import Derived.Test.YtcfaejbbjmjgpabDoorRefNamed

/-
  The document's Read, of any text and any place.
-/
namespace Go.Proofs.YtcfaejbbjmjgpabDoor
open Go.RowKit Utf
set_option linter.unusedVariables false

theorem st_sem (s : ByteArray) (q : Nat) : st s q SEM = (decide (q < s.size) && (bt s q == 59)) := by
  by_cases hq : q < s.size
  · rw [decide_eq_true hq, Bool.true_and]
    by_cases hb : bt s q = 59
    · rw [beq_iff_eq.2 hb]
      refine st_true (by rw [show SEM.size = 1 from rfl]; omega) fun j hj => ?_
      rw [show SEM.size = 1 from rfl] at hj
      obtain rfl : j = 0 := by omega
      rw [Nat.add_zero, hb]
      decide
    · rw [beq_eq_false_iff_ne.2 hb]
      refine st_not 0 (by decide) ?_
      rw [Nat.add_zero, show bt SEM 0 = 59 by decide]
      exact hb
  · rw [decide_eq_false hq, Bool.false_and]
    exact st_long (by rw [show SEM.size = 1 from rfl]; omega)

theorem near_64 {m u : Int} (h : Near m u) (hu : 0 ≤ u) : int64 m := by
  have := near_range h hu
  unfold int64
  omega


end Go.Proofs.YtcfaejbbjmjgpabDoor

/-
  The document's Read, where a name may stand, and of any place.
-/
namespace Go.Proofs.YtcfaejbbjmjgpabDoor
open Go.RowKit Utf
set_option linter.unusedVariables false


end Go.Proofs.YtcfaejbbjmjgpabDoor
