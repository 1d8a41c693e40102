/-
  A line of ints that the call itself made, through any of its methods.
-/
import Derived.Test.YtigpbkgcfnmdiaaIntsB
namespace Go.Proofs.Ytigpbkgcfnmdiaa.Ints
open Go.RowKit

/-- The line in block p, whose channel was made behind w0, holds zs; what w0 had is as it was. -/
def Inv (w0 w : World) (p c room : Nat) (ks : List Nat) (zs : List Int) : Prop := LX w p c room ks zs ∧ Kp [] w0 w ∧ w0.heap.size ≤ c

theorem Inv.step {w0 w w' : World} {p c room : Nat} {ks ks' : List Nat} {zs zs' : List Int} (h : Inv w0 w p c room ks zs) (l : LX w' p c room ks' zs') (k : Kp [c] w w') : Inv w0 w' p c room ks' zs' :=
  ⟨l, h.2.1.trans k (fun x hx => Or.inr (by simp only [List.mem_singleton] at hx; rw [hx]; exact h.2.2)), h.2.2⟩

theorem Inv.kept {w0 w w' : World} {p c room : Nat} {ks : List Nat} {zs : List Int} (h : Inv w0 w p c room ks zs) (k : Kp [] w w') : Inv w0 w' p c room ks zs :=
  ⟨Line.keep0 h.1 k, h.2.1.trans k (fun x hx => by simp at hx), h.2.2⟩

end Go.Proofs.Ytigpbkgcfnmdiaa.Ints
