/-
  OpenPlays.
-/
import Derived.Test.YtpadnfpifldoaaaDow
import Derived.Test.YtpadnfpifldoaaaAin
namespace Go.Proofs.Ytpadnfpifldoaaa.Ints
open Go.RowKit
set_option linter.unusedSimpArgs false
set_option linter.unusedVariables false

set_option maxRecDepth 100000 in
set_option maxHeartbeats 4000000 in
theorem plays_walk (w : World) (ao : Option Addr) (n c : Nat) (F : Nat → Ask) (hA : As w ao n c F) :
    Calls Try.prog 4 #[.slice ao n c] w fun e w' => e = .returned (.bool true) ∧ Kp [] w w' := by
  have H1 := new_list w w (Nat.le_refl _)
  have hnc := hA.1
  go_enter Try.func4, Try.ntmps4
  go_wp2_with fail
  refine H1.mono ?_
  rintro e w1 ⟨q, rfl, hL, k1⟩
  clear H1
  have HK1 : Hid (Kp [] w w1) := k1
  clear k1
  go_wp2
  go_loopw [4, 5, 6] (fun m ok i wr => ∃ k : Nat, ∃ zs : List It, ∃ bo j d, k ≤ 60 ∧ k ≤ n ∧ zs.length ≤ k ∧ m = .slice bo j d ∧ ok = .bool true ∧ i = .int .i64 k ∧ Li w wr q zs ∧ Kp [] w wr ∧ Rs wr bo j d zs) (fun _ _ i _ => n - (intOf i).toNat)
  case atStart => exact ⟨0, [], none, 0, 0, by omega, Nat.zero_le _, Nat.le_refl _, rfl, rfl, rfl, hL, HK1.out, Rs.nil _⟩
  case round =>
    obtain ⟨k, zs, bo, j, d, hk, hkn, hz, rfl, rfl, rfl, hr, kr, hm⟩ := hrel
    clear hL HK1
    by_cases hlt : k < 60 ∧ k < n
    · obtain ⟨g1, g2⟩ := hlt
      obtain ⟨b, off, rfl, c0, c1, c2, c3, c4⟩ := (hA.kept kr).2 k g2
      have HD := do_any w wr q zs bo j d (F k) hr hm (by omega)
      generalize F k = a at c0 c1 c2 c3 c4 HD
      obtain ⟨kd, H, N, M, sv⟩ := a
      unfold av at HD
      simp only at HD c0 c1 c2 c3 c4
      have HR : Hid (Kp [] w wr ∧ zs.length ≤ k) := ⟨kr, hz⟩
      clear hr kr hm hz
      go_wp2_with fail
      refine HD.mono ?_
      rintro e w3 ⟨bo3, n3, d3, zs3, rfl, l3, z3, e3, b3⟩
      have H3 : Hid (Li w w3 q zs3 ∧ Kp [] w w3 ∧ Rs w3 bo3 n3 d3 zs3 ∧ zs3.length ≤ k + 1) := ⟨l3, e3.kp HR.out.1, z3, by have := HR.out.2; omega⟩
      clear l3 z3 e3 b3 HD HR
      go_wp2
      go_roundw
      case rel => exact ⟨k + 1, zs3, bo3, n3, d3, by omega, by omega, H3.out.2.2.2, by go_num, by go_num, by go_num, H3.out.1, H3.out.2.1, H3.out.2.2.1⟩
      case measure => simp [intOf]; omega
    · have hfin : ¬ k < n ∨ (k < n ∧ ¬ k < 60) := by omega
      have HX : Hid (Kp [] w wr) := kr
      have HKn := known_any wr
      clear hr kr hm hlt hA
      rcases hfin with g1 | ⟨g0, g1⟩
      all_goals
        go_wp2_with fail
        refine HKn.mono ?_
        rintro e w2 ⟨rfl, k2⟩
        have HX2 : Hid (Kp [] w w2) := kt HX.out k2
        clear k2 HX HKn
        go_wp2
        go_ret
        exact ⟨rfl, HX2.out⟩

end Go.Proofs.Ytpadnfpifldoaaa.Ints
