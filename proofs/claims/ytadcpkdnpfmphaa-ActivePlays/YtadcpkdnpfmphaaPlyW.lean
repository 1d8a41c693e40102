/-
  ActivePlays.
-/
import Derived.Test.YtadcpkdnpfmphaaDow
import Derived.Test.YtadcpkdnpfmphaaKn
namespace Go.Proofs.Ytadcpkdnpfmphaa.Ints
open Go.RowKit
set_option linter.unusedSimpArgs false
set_option linter.unusedVariables false

set_option maxRecDepth 100000 in
set_option maxHeartbeats 4000000 in
theorem plays_walk (w : World) (ao : Option Addr) (n c : Nat) (F : Nat → Ask) (hA : As w ao n c F) :
    Calls Try.prog 4 #[.slice ao n c] w fun e w' => e = .returned (.bool true) ∧ Kp [] w w' := by
  have H1 := new_list w w (Nat.le_refl _)
  have hnc := hA.1
  go_enter Try.func4, Try.ntmps4
  go_wp2_with fail
  refine H1.mono ?_
  rintro e w1 ⟨q, rfl, hL, k1⟩
  clear H1
  have HK1 : Hid (Kp [] w w1) := k1
  clear k1
  go_wp2
  go_loopw [4, 5, 6] (fun m ok i wr => ∃ (k : Nat) (zs : List Ent) (B : List Nat) (rl : List Raw) (bo : Option Addr) (j d : Nat), k ≤ 60 ∧ k ≤ n ∧ zs.length ≤ k ∧ m = .slice bo j d ∧ ok = .bool true ∧ i = .int .i64 (k : Int) ∧ Li w wr q B zs ∧ Kp [] w wr ∧ Ls wr bo j d rl zs ∧ Off B bo) (fun _ _ i _ => n - (intOf i).toNat)
  case atStart => exact ⟨0, [], [], [], none, 0, 0, by omega, Nat.zero_le _, Nat.le_refl _, rfl, rfl, rfl, hL, HK1.out, Ls.nil _, off_nil _⟩
  case round =>
    obtain ⟨k, zs, B, rl, bo, j, d, hk, hkn, hz, rfl, rfl, rfl, hr, kr, hm, ho⟩ := hrel
    clear hL HK1
    by_cases hlt : k < 60 ∧ k < n
    · obtain ⟨g1, g2⟩ := hlt
      obtain ⟨b, off, rfl, hc, hat⟩ := (hA.kept kr).2 k g2
      have c0 : wr.cell? ⟨b, off + k * 5, none⟩ = some (.int .i64 (F k).1) := by have := hc 0 (by omega); simpa [askc] using this
      have c1 : wr.cell? ⟨b, off + k * 5 + 1, none⟩ = some (.int .i64 (F k).2.1) := by have := hc 1 (by omega); simpa [askc] using this
      have c2 : wr.cell? ⟨b, off + k * 5 + 2, none⟩ = some (.int .i64 (F k).2.2.1) := by have := hc 2 (by omega); simpa [askc] using this
      have c3 : wr.cell? ⟨b, off + k * 5 + 3, none⟩ = some (.int .i64 (F k).2.2.2.1) := by have := hc 3 (by omega); simpa [askc] using this
      have c4 : wr.cell? ⟨b, off + k * 5 + 4, none⟩ = some (.slice (F k).2.2.2.2.1.1 (F k).2.2.2.2.1.2.1 (F k).2.2.2.2.1.2.2) := by have := hc 4 (by omega); simpa [askc] using this
      have HD := do_any w wr q B rl zs bo j d (F k) hr hm ho kr hat (by omega)
      generalize F k = a at c0 c1 c2 c3 c4 HD
      obtain ⟨kd, H, N, I, ⟨sa, sn, sc⟩, al⟩ := a
      unfold askv at HD
      simp only at HD c0 c1 c2 c3 c4
      have HR : Hid (zs.length ≤ k) := hz
      have q3 : (0 : Int) ≤ (k : Int) := by omega
      have q4 : (k : Int) < (n : Int) := by omega
      clear hr kr hm hz ho hc hat
      go_wp2_with fail
      refine HD.mono ?_
      rintro e w3 ⟨bo3, n3, d3, rl3, zs3, B3, rfl, l3, z3, o3, k3, b3⟩
      have H3 : Hid (Li w w3 q B3 zs3 ∧ Kp [] w w3 ∧ Ls w3 bo3 n3 d3 rl3 zs3 ∧ Off B3 bo3 ∧ zs3.length ≤ k + 1) := ⟨l3, k3, z3, o3, by have := HR.out; omega⟩
      clear l3 z3 o3 k3 b3 HD HR
      go_wp2
      go_roundw
      case rel => exact ⟨k + 1, zs3, B3, rl3, bo3, n3, d3, by omega, by omega, H3.out.2.2.2.2, by go_num, by go_num, by go_num, H3.out.1, H3.out.2.1, H3.out.2.2.1, H3.out.2.2.2.1⟩
      case measure => simp [intOf]; omega
    · have hfin : ¬ k < n ∨ (k < n ∧ ¬ k < 60) := by omega
      have HX : Hid (Kp [] w wr) := kr
      have HKn := known_any wr
      clear hr kr hm ho hlt hA
      rcases hfin with g1 | ⟨g0, g1⟩
      all_goals
        go_wp2_with fail
        refine HKn.mono ?_
        rintro e w2 ⟨rfl, k2⟩
        have HX2 : Hid (Kp [] w w2) := kt HX.out k2
        clear k2 HX HKn
        go_wp2
        go_ret
        exact ⟨rfl, HX2.out⟩

end Go.Proofs.Ytadcpkdnpfmphaa.Ints
