/-
  known of the laws.
-/
import Derived.Test.YtadcpkdnpfmphaaRa
namespace Go.Proofs.Ytadcpkdnpfmphaa.Ints
open Go.RowKit
set_option linter.unusedSimpArgs false
set_option linter.unusedVariables false

/-- What stands there when b was pushed k times. -/
def ks : Nat → List Ent
  | 0 => []
  | k + 1 => psh (ks k) (k : Int) ⟨#[98]⟩ []

theorem ks4 : ks 4 = [(false, 1, ⟨#[98]⟩, []), (false, 2, ⟨#[98]⟩, []), (false, 3, ⟨#[98]⟩, [])] := by kernel_rfl

theorem ks_len : ∀ k, (ks k).length ≤ k
  | 0 => Nat.le_refl _
  | k + 1 => by
    have := psh_len (ks k) (k : Int) ⟨#[98]⟩ []
    have := ks_len k
    unfold ks
    omega

set_option maxHeartbeats 2000000 in
theorem known_any (w : World) : Calls Try.prog 9 #[] w fun e w' => e = .returned (.bool true) ∧ Kp [] w w' := by
  have H1 := new_list w w (Nat.le_refl _)
  go_enter Try.func9, Try.ntmps9
  go_wp2_with fail
  refine H1.mono ?_
  rintro e w1 ⟨q, rfl, hL, k1⟩
  clear H1
  have HK1 : Hid (Kp [] w w1) := k1
  clear k1
  go_wp2
  go_loopw [2] (fun i wr => ∃ (k : Nat) (B : List Nat), k ≤ 4 ∧ i = .int .i64 (k : Int) ∧ Li w wr q B (ks k) ∧ Kp [] w wr) (fun i _ => 4 - (intOf i).toNat)
  case atStart => exact ⟨0, [], by omega, rfl, hL, HK1.out⟩
  case round =>
    obtain ⟨k, B, hk, rfl, hr, kr⟩ := hrel
    clear hL HK1
    by_cases hlt : k < 4
    · have HP := push_list w wr q B (ks k) (k : Int) ⟨#[98]⟩ [] none 0 0 hr (Rz.nil _) (by omega) (fun a ha => by simp at ha) (by have := ks_len k; omega)
      have HR : Hid (Kp [] w wr) := kr
      have hi1 : (k : Int) < 4 := by omega
      clear hr kr
      go_wp2_with fail
      refine HP.mono ?_
      rintro e w2 ⟨rfl, ⟨B', l2, _⟩, e2⟩
      have H3 : Hid (Li w w2 q B' (ks (k + 1)) ∧ Kp [] w w2) := ⟨l2, e2.kp HR.out⟩
      clear HP l2 e2 HR
      go_wp2
      go_roundw
      case rel => exact ⟨k + 1, B', by omega, by go_num, H3.out.1, H3.out.2⟩
      case measure => simp [intOf]; omega
    · obtain rfl : k = 4 := by omega
      rw [ks4] at hr
      have HA := at_list w wr q B _ 0 hr (by simp)
      have HL : Hid (∀ W, Kp [] wr W → Calls Try.prog 15 #[.pointer (some ⟨q, 0, none⟩)] W fun e w' => e = .returned (.int .i64 3) ∧ w' = W) := fun W kW => len_list w W q B _ (hr.kept kW)
      have HR : Hid (Kp [] w wr) := kr
      simp only [List.getElem_cons_zero] at HA
      rw [show (((0 : Nat) : Int)) = 0 from rfl] at HA
      clear hr kr
      unfold rv at HA
      go_wp2_with fail
      refine HA.mono ?_
      rintro e w2 ⟨⟨m, hd, nm, ao, n, c⟩, rfl, hs, k2⟩
      obtain ⟨a1, a2, a3, _, _⟩ := hs
      simp only at a1 a2 a3
      subst a1 a2 a3
      simp only
      have g1 : (w2.alloc (.cells #[.bool false, .int .i64 1, .string ⟨#[98]⟩, .slice ao n c] 40)).cell? ⟨w2.heap.size, 1, none⟩ = some (.int .i64 1) := by rw [cell_of (heap_new _ _)]; rfl
      have HL2 := HL.out _ (k2.alloc (.cells #[.bool false, .int .i64 1, .string ⟨#[98]⟩, .slice ao n c] 40))
      have KZ : Hid (Kp [] w (w2.alloc (.cells #[.bool false, .int .i64 1, .string ⟨#[98]⟩, .slice ao n c] 40))) := kt HR.out (k2.alloc _)
      clear HA HL HR k2
      go_wp2_with fail
      refine HL2.mono ?_
      rintro e w' ⟨rfl, hw⟩
      have hw2 := hw.symm
      clear hw
      subst hw2
      go_wp2
      go_ret
      exact ⟨rfl, KZ.out⟩

end Go.Proofs.Ytadcpkdnpfmphaa.Ints
