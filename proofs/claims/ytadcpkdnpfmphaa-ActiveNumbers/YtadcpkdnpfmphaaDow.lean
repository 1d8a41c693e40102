/-
  do of the laws, whatever the ask.
-/
import Derived.Test.YtadcpkdnpfmphaaDoA
import Derived.Test.YtadcpkdnpfmphaaDoB
import Derived.Test.YtadcpkdnpfmphaaDoC
import Derived.Test.YtadcpkdnpfmphaaDoD
import Derived.Test.YtadcpkdnpfmphaaDoE
import Derived.Test.YtadcpkdnpfmphaaDoF
import Derived.Test.YtadcpkdnpfmphaaDoG
import Derived.Test.YtadcpkdnpfmphaaDoH
import Derived.Test.YtadcpkdnpfmphaaDoI
namespace Go.Proofs.Ytadcpkdnpfmphaa.Ints
open Go.RowKit
set_option linter.unusedSimpArgs false
set_option linter.unusedVariables false

theorem do_any (w0 w : World) (q : Nat) (B : List Nat) (rl : List Raw) (zs : List Ent) (bo : Option Addr) (n d : Nat) (a : Ask) (hL : Li w0 w q B zs) (hz : Ls w bo n d rl zs) (ho : Off B bo) (hk : Kp [] w0 w) (hat : Aa w a) (hl : zs.length < 900) :
    Calls Try.prog 8 #[.pointer (some ⟨q, 0, none⟩), .slice bo n d, askv a] w (Dn w0 q zs) := by
  obtain ⟨kd, H, N, I, ⟨sa, sn, sc⟩, al⟩ := a
  obtain ⟨h8, h9⟩ := hat
  unfold askv
  simp only at h8 h9 ⊢
  by_cases h1 : kd = 1
  · subst h1; exact do_1 w0 w q B rl zs bo n d H N I sa sn sc al hL hz ho hk h8 h9 hl
  by_cases h2 : kd = 2
  · subst h2; exact do_2 w0 w q B rl zs bo n d H N I sa sn sc al hL hz ho hk h8 h9 hl
  by_cases h3 : kd = 3
  · subst h3; exact do_3 w0 w q B rl zs bo n d H N I sa sn sc al hL hz ho hk h8 h9 hl
  by_cases h4 : kd = 4
  · subst h4; exact do_4 w0 w q B rl zs bo n d H N I sa sn sc al hL hz ho hk h8 h9 hl
  by_cases h5 : kd = 5
  · subst h5; exact do_5 w0 w q B rl zs bo n d H N I sa sn sc al hL hz ho hk h8 h9 hl
  by_cases h6 : kd = 6
  · subst h6; exact do_6 w0 w q B rl zs bo n d H N I sa sn sc al hL hz ho hk h8 h9 hl
  by_cases h7 : kd = 7
  · subst h7; exact do_7 w0 w q B rl zs bo n d H N I sa sn sc al hL hz ho hk h8 h9 hl
  by_cases hh : kd = 8
  · subst hh; exact do_8 w0 w q B rl zs bo n d H N I sa sn sc al hL hz ho hk h8 h9 hl
  exact do_0 w0 w q B rl zs bo n d kd (beq_false_of_ne h1) (beq_false_of_ne h2) (beq_false_of_ne h3) (beq_false_of_ne h4) (beq_false_of_ne h5) (beq_false_of_ne h6) (beq_false_of_ne h7) (beq_false_of_ne hh) H N I sa sn sc al hL hz ho hk h8 h9 hl

end Go.Proofs.Ytadcpkdnpfmphaa.Ints
