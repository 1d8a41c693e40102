/-
  is and isOf of an element of texts as handles; plain, At, Top and Pop.
-/
import Derived.Test.YtpadnfpifldoaaaLbs
namespace Go.Proofs.Ytpadnfpifldoaaa.Strs
open Go.RowKit
set_option linter.unusedSimpArgs false

set_option maxHeartbeats 1000000 in
theorem isOf_any (w : World) (b : Option Addr) (x : It) (L : List ByteArray) (ao : Option Addr) (n c : Nat) (hb : Bx w b x) (hr : Rb w ao n c (tx L)) (hn : n ≤ 1000) :
    Calls Try.prog 48 #[.pointer b, .slice ao n c] w fun e w' => e = .returned (.bool (isIn L x)) ∧ w' = w := by
  obtain ⟨h, ns, s⟩ := x
  obtain ⟨g, rfl, c0, c1, c2, c3⟩ := hb.out
  have H := contains_any L w s ao n c hr hn
  obtain ⟨A, hA⟩ : ∃ A, isIn L (h, ns, s) = A := ⟨_, rfl⟩
  rw [hA]
  unfold isIn at hA
  simp only at hA
  generalize (L.any fun x => x.toList == s.toList) = B at H hA
  clear hb hr
  go_enter Try.func48, Try.ntmps48
  go_wp2_with (go_at_call 73; refine H.mono ?_; rintro e w2 ⟨rfl, rfl⟩)
  all_goals (go_ret; refine ⟨?_, rfl⟩)
  all_goals (clear H; subst hA; simp [*])


end Go.Proofs.Ytpadnfpifldoaaa.Strs
