/-
  Arenas by themselves: what is detached, and put somewhere else, is the same with all below it. No program.
-/
import Derived.Test.YtngbpbgohpblmaaGT
import Derived.Test.YtngbpbgohpblmaaPA
namespace Go.Proofs.Ytngbpbgohpblmaa
set_option linter.unusedVariables false
set_option linter.unusedSimpArgs false

namespace Ar

theorem Ok.cut_below {a : Ar} (h : a.Ok) {x : Nat} (hx : x < a.n) : (a.cut x).below x = a.below x :=
  h.below_same (h.cut x) rfl hx (fun y hy => ⟨rfl, by
    show (if a.up x = some y then _ else _) = _
    by_cases e : a.up x = some y
    · exact absurd hy (h.not_up e)
    · rw [if_neg e]⟩)

theorem Ok.put_below {a : Ar} (h : a.Ok) {p i x : Nat} (hb : (a.put p i x).Ok) (hx : x < a.n) (hw : ¬ a.Wn p x) : (a.put p i x).below x = a.below x :=
  h.below_same hb rfl hx (fun y hy => ⟨rfl, by
    show (if y = p then _ else _) = _
    by_cases e : y = p
    · exact absurd (e ▸ hy) hw
    · rw [if_neg e]⟩)

theorem detF_yes {a : Ar} {x : Nat} (hx : x < a.n) (hf : fix (a.lb x) = false) : a.detF (x : Int) = (a.cut x, 0) := by
  unfold detF
  rw [if_neg (by unfold there; rw [decide_eq_true (by omega)]; simp), Int.toNat_natCast, if_neg (by rw [hf]; simp)]
theorem detF_no {a : Ar} {x : Nat} (hx : x < a.n) (hf : fix (a.lb x) = true) : a.detF (x : Int) = (a, 23) := by
  unfold detF
  rw [if_neg (by unfold there; rw [decide_eq_true (by omega)]; simp), Int.toNat_natCast, if_pos hf]

theorem cut_up (a : Ar) (x : Nat) : (a.cut x).up x = none := by show (if x = x then _ else _) = _; rw [if_pos rfl]
theorem cut_len (a : Ar) (x t : Nat) : ((a.cut x).kids t).length ≤ (a.kids t).length := by
  show (if a.up x = some t then (a.kids t).erase x else a.kids t).length ≤ _
  split
  · exact List.length_erase_le
  · exact Nat.le_refl _

/-- Append that is not refused. -/
theorem appF_yes {a : Ar} (h : a.Ok) {p x : Nat} (hp : p < a.n) (hx : x < a.n) (e : (a.appF (p : Int) (x : Int)).2 = 0) : (a.appF (p : Int) (x : Int)).1 = a.put p (a.kids p).length x ∧ ¬ a.Wn p x := by
  have tp : a.there (p : Int) = true := by unfold there; exact decide_eq_true (by omega)
  have tx : a.there (x : Int) = true := by unfold there; exact decide_eq_true (by omega)
  unfold appF at e ⊢
  rw [if_neg (by rw [tp, tx]; simp), Int.toNat_natCast, Int.toNat_natCast] at e ⊢
  by_cases h2 : hld (a.lb p) = false ∨ fix (a.lb x) = true
  · rw [if_pos h2] at e; cases e
  rw [if_neg h2] at e ⊢
  by_cases h3 : a.up x ≠ none
  · rw [if_pos h3] at e; cases e
  rw [if_neg h3] at e ⊢
  by_cases h4 : a.wn p x = true
  · rw [if_pos h4] at e; cases e
  rw [if_neg h4]
  exact ⟨rfl, wn_false h hp (by simpa using h4)⟩

/-- Before that is not refused. -/
theorem befF_yes {a : Ar} (h : a.Ok) {r x : Nat} (hr : r < a.n) (hx : x < a.n) (e : (a.befF (r : Int) (x : Int)).2 = 0) : ∃ p, a.up r = some p ∧ fix (a.lb x) = false ∧ a.up x = none ∧ ¬ a.Wn r x ∧ (a.befF (r : Int) (x : Int)).1 = a.put p (a.place p r) x := by
  have tr : a.there (r : Int) = true := by unfold there; exact decide_eq_true (by omega)
  have tx : a.there (x : Int) = true := by unfold there; exact decide_eq_true (by omega)
  unfold befF at e ⊢
  rw [if_neg (by rw [tr, tx]; simp), Int.toNat_natCast, Int.toNat_natCast] at e ⊢
  cases hu : a.up r with
  | none => rw [hu] at e; cases e
  | some p =>
    rw [hu] at e
    simp only at e ⊢
    by_cases h2 : fix (a.lb r) = true ∨ fix (a.lb x) = true
    · rw [if_pos h2] at e; cases e
    rw [if_neg h2] at e ⊢
    by_cases h3 : a.up x ≠ none
    · rw [if_pos h3] at e; cases e
    rw [if_neg h3] at e ⊢
    by_cases h4 : a.wn r x = true
    · rw [if_pos h4] at e; cases e
    rw [if_neg h4]
    exact ⟨p, rfl, by cases hf : fix (a.lb x) with | false => rfl | true => exact absurd (.inr hf) h2, by simpa using h3, wn_false h hr (by simpa using h4), rfl⟩

theorem parF_some {a : Ar} {x p : Nat} (hx : x < a.n) (hu : a.up x = some p) : a.parF (x : Int) = ((p : Int), true) := by
  unfold parF
  rw [if_pos (by unfold there; exact decide_eq_true (by omega)), Int.toNat_natCast, hu]
theorem parF_none {a : Ar} {x : Nat} (hu : a.up x = none) : a.parF (x : Int) = (0, false) := by
  unfold parF
  split
  · rw [Int.toNat_natCast, hu]
  · rfl
theorem kidF_nat {a : Ar} {x : Nat} (hx : x < a.n) : a.kidF (x : Int) = a.kids x := by
  unfold kidF
  rw [if_pos (by unfold there; exact decide_eq_true (by omega)), Int.toNat_natCast]

end Ar
end Go.Proofs.Ytngbpbgohpblmaa
