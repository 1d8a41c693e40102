/-
  A pile of ints and a list that the call itself made, through any calls.
-/
import Derived.Test.YtfnacibhmanblaaIntsF
namespace Go.Proofs.Ytfnacibhmanblaa.Ints
open Go.RowKit

/-- The pile and the list, made behind w0, hold the same, no more than b; what w0 had is as it was. -/
def G (w0 w : World) (p : Nat) (lv : Value) (b : Nat) : Prop :=
  ∃ pv zs, Two w p pv lv zs ∧ Kp [] w0 w ∧ (∀ y, y ∈ feet p pv lv → w0.heap.size ≤ y) ∧ zs.length ≤ b

theorem G.new (w : World) : G w (w.alloc (.cells #[.slice none 0 0] 49)) w.heap.size (.slice none 0 0) 0 :=
  ⟨.slice none 0 0, [], ⟨(Inv.new w).1, Or.inl ⟨rfl, rfl⟩, by simp [blk], fun k hk => by simp [blk] at hk⟩, (Kp.refl _ _).alloc _, fun y hy => by simp [feet, blk] at hy; omega, Nat.le_refl _⟩

theorem G.step {w0 w w' : World} {p : Nat} {pv lv lv' : Value} {zs' : List Int} {b : Nat} (hk : Kp [] w0 w) (hf : ∀ y, y ∈ feet p pv lv → w0.heap.size ≤ y) (t : TwoT w w' p pv lv lv' zs') (hb : zs'.length ≤ b) : G w0 w' p lv' b := by
  obtain ⟨pv', t1, t2, t3⟩ := t
  refine ⟨pv', zs', t1, hk.trans t2 (fun x hx => Or.inr (hf x hx)), fun y hy => ?_, hb⟩
  rcases t3 y hy with h1 | h1
  · exact hf y h1
  · have := hk.size
    omega

end Go.Proofs.Ytfnacibhmanblaa.Ints
