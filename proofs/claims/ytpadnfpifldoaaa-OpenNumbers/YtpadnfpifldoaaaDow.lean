/-
  do of the laws, whatever the ask.
-/
import Derived.Test.YtpadnfpifldoaaaDoA
import Derived.Test.YtpadnfpifldoaaaDoB
import Derived.Test.YtpadnfpifldoaaaDoC
import Derived.Test.YtpadnfpifldoaaaDoD
import Derived.Test.YtpadnfpifldoaaaDoE
import Derived.Test.YtpadnfpifldoaaaDoF
import Derived.Test.YtpadnfpifldoaaaDoG
import Derived.Test.YtpadnfpifldoaaaDoH
import Derived.Test.YtpadnfpifldoaaaDoI
import Derived.Test.YtpadnfpifldoaaaDoJ
namespace Go.Proofs.Ytpadnfpifldoaaa.Ints
open Go.RowKit
set_option linter.unusedSimpArgs false
set_option linter.unusedVariables false

theorem do_any (w0 w : World) (q : Nat) (zs : List It) (bo : Option Addr) (n d : Nat) (a : Ask) (hL : Li w0 w q zs) (hz : Rs w bo n d zs) (hl : zs.length < 900) :
    Calls Try.prog 9 #[.pointer (some ⟨q, 0, none⟩), .slice bo n d, av a] w (Dn w0 w q zs) := by
  obtain ⟨kd, H, N, M, svg⟩ := a
  unfold av
  simp only
  by_cases h1 : kd = 1
  · subst h1; exact do_1 w0 w q zs bo n d H N M svg hL hz hl
  by_cases h2 : kd = 2
  · subst h2; exact do_2 w0 w q zs bo n d H N M svg hL hz hl
  by_cases h3 : kd = 3
  · subst h3; exact do_3 w0 w q zs bo n d H N M svg hL hz hl
  by_cases h4 : kd = 4
  · subst h4; exact do_4 w0 w q zs bo n d H N M svg hL hz hl
  by_cases h5 : kd = 5
  · subst h5; exact do_5 w0 w q zs bo n d H N M svg hL hz hl
  by_cases h6 : kd = 6
  · subst h6; exact do_6 w0 w q zs bo n d H N M svg hL hz hl
  by_cases h7 : kd = 7
  · subst h7; exact do_7 w0 w q zs bo n d H N M svg hL hz hl
  by_cases h8 : kd = 8
  · subst h8; exact do_8 w0 w q zs bo n d H N M svg hL hz hl
  by_cases h9 : kd = 9
  · subst h9; exact do_9 w0 w q zs bo n d H N M svg hL hz hl
  by_cases h10 : kd = 10
  · subst h10; exact do_10 w0 w q zs bo n d H N M svg hL hz hl
  exact do_0 w0 w q zs bo n d kd (beq_false_of_ne h1) (beq_false_of_ne h2) (beq_false_of_ne h3) (beq_false_of_ne h4) (beq_false_of_ne h5) (beq_false_of_ne h6) (beq_false_of_ne h7) (beq_false_of_ne h8) (beq_false_of_ne h9) (beq_false_of_ne h10) H N M svg hL hz hl

end Go.Proofs.Ytpadnfpifldoaaa.Ints
