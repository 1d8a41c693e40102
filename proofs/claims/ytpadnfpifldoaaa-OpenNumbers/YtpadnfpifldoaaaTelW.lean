/-
  tells of the laws, whatever the list and the ask.
-/
import Derived.Test.YtpadnfpifldoaaaTelA
import Derived.Test.YtpadnfpifldoaaaTelC
import Derived.Test.YtpadnfpifldoaaaTelD
import Derived.Test.YtpadnfpifldoaaaTelE
namespace Go.Proofs.Ytpadnfpifldoaaa.Ints
open Go.RowKit
set_option linter.unusedSimpArgs false
set_option linter.unusedVariables false

theorem tells_any (w0 w : World) (q : Nat) (zs : List It) (bo : Option Addr) (n d : Nat) (a : Ask) (hL : Li w0 w q zs) (hz : Rs w bo n d zs) (hl : zs.length < 1000) :
    Calls Try.prog 42 #[.pointer (some ⟨q, 0, none⟩), .slice bo n d, av a] w fun e w' => e = .returned (.bool true) ∧ Kp [] w w' := by
  obtain ⟨kd, H, N, M, svg⟩ := a
  unfold av
  simp only
  have hn : n = zs.length := hz.len
  subst hn
  rcases List.eq_nil_or_concat zs with rfl | ⟨r, ⟨xh, xn, xs⟩, rfl⟩
  · by_cases hH : H < 0
    · exact tells_A w0 w q bo d H hH kd N M svg hL hz
    · exact tells_B w0 w q bo d H (by omega) kd N M svg hL hz
  · have hlen : (r.concat ((xh, xn, xs) : It)).length = r.length + 1 := by simp
    rw [hlen] at hz ⊢
    rw [List.concat_eq_append] at hL hz
    have hm : r.length < 1000 := by rw [hlen] at hl; omega
    by_cases hH : H < 0
    · exact tells_C w0 w q bo d r xh xn xs r.length rfl H hH kd N M svg hL hz hm
    · by_cases h2 : (r.length : Int) + 1 ≤ H
      · exact tells_D w0 w q bo d r xh xn xs r.length rfl H h2 kd N M svg hL hz hm
      · obtain ⟨i, rfl⟩ : ∃ i : Nat, H = (i : Int) := ⟨H.toNat, by omega⟩
        have hi : i < r.length + 1 := by omega
        obtain ⟨⟨yh, yn, ys⟩, hy⟩ : ∃ y, (r ++ [((xh, xn, xs) : It)])[i]? = some y := ⟨_, List.getElem?_eq_getElem (by simp; omega)⟩
        exact tells_E w0 w q bo d r xh xn xs r.length rfl i hi yh yn ys hy kd N M svg hL hz hm

end Go.Proofs.Ytpadnfpifldoaaa.Ints
