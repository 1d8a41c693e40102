/-
  The walk of MarkNumbers: it answers true, and leaves what was there as it was.
-/
import Derived.Test.YthdlmglnieomeaaAgree
namespace Go.Proofs.Ythdlmglnieomeaa
open Go.RowKit Utf
set_option linter.unusedVariables false

/-- The texts that are asked. -/
def TEXTS : List ByteArray := [⟨#[60, 33, 45, 45, 97, 45, 45, 33, 62, 98]⟩, ⟨#[60, 33, 45, 45, 62]⟩, ⟨#[60, 33, 45, 45, 45, 62]⟩, ⟨#[60, 33, 45, 45, 45, 45, 62]⟩, ⟨#[60, 33, 45, 45, 97, 45, 62, 98, 45, 45, 62]⟩, ⟨#[60, 33, 45, 45, 97, 45, 45, 33]⟩, ⟨#[60, 33, 45, 45, 97, 45, 45]⟩, ⟨#[60, 33, 45, 45, 97, 45]⟩, ⟨#[60, 33, 68, 79, 67, 84, 89, 80, 69, 32, 104, 116, 109, 108, 32, 83, 89, 83, 84, 69, 77, 32, 39, 120, 39, 62, 121]⟩, ⟨#[60, 33, 100, 111, 99, 116, 121, 112, 101, 62]⟩, ⟨#[60, 33, 100, 111, 99, 116, 121, 112, 101, 120, 62]⟩, ⟨#[60, 33, 68, 111, 99, 84, 121, 112, 101, 32, 32, 65, 62]⟩, ⟨#[60, 33, 91, 67, 68, 65, 84, 65, 91, 97, 93, 93, 62, 98]⟩, ⟨#[60, 33, 91, 67, 68, 65, 84, 65, 91, 93, 93, 62]⟩, ⟨#[60, 33, 91, 99, 100, 97, 116, 97, 91, 120, 93, 93, 62]⟩, ⟨#[60, 63, 112, 104, 112, 32, 62]⟩, ⟨#[60, 47, 32, 97, 62]⟩, ⟨#[60, 47, 62, 120]⟩, ⟨#[60, 47, 33, 62]⟩, ⟨#[60, 33, 97, 62]⟩, ⟨#[60, 33, 62]⟩, ⟨#[60, 33, 45, 97, 45, 45, 62]⟩, ⟨#[60, 97, 62]⟩, ⟨#[60, 47, 97, 62]⟩]
theorem texts_len : TEXTS.length = 24 := by kernel_rfl
theorem texts_size : ∀ x, x ∈ TEXTS → x.size ≤ 40 := by decide +kernel

set_option maxHeartbeats 1000000 in
set_option maxRecDepth 100000 in
theorem numbers_any (w : World) : Calls Try.prog 3 #[] w fun e w' => e = .returned (.bool true) ∧ Kp [] w w' := by
  have HR : Rb (w.alloc (.cells (tx TEXTS).toArray 9)) (some ⟨w.heap.size, 0, none⟩) 24 24 (tx TEXTS) := rb_lit w 9 _ (tx TEXTS) 24 rfl (by kernel_rfl) (by omega)
  have k1 : Kp [] w (w.alloc (.cells (tx TEXTS).toArray 9)) := (Kp.refl _ _).alloc _
  go_enter Try.func3, Try.ntmps3
  go_upto_region 1 with fail
  refine wp_region_lit ?_
  refine build_texts rfl 22 9 24 _ rfl TEXTS Try.underlying22 (by kernel_rfl) (by kernel_rfl) (by kernel_rfl) (by omega) (by omega) (by kernel_rfl) ?_
  generalize w.alloc (.cells (tx TEXTS).toArray 9) = w2 at HR k1 ⊢
  generalize some (⟨w.heap.size, 0, none⟩ : Addr) = ta at HR ⊢
  go_wp2
  go_loopw [6] (fun j wx => ∃ q : Nat, j = .int .i64 (q : Int) ∧ q ≤ 24 ∧ Kp [] w wx ∧ Rb wx ta 24 24 (tx TEXTS)) (fun j _ => 24 - (intOf j).toNat)
  case atStart => exact ⟨0, rfl, by omega, k1, HR⟩
  case round =>
    obtain ⟨q, rfl, hq, kq, rt⟩ := hrel
    clear k1 HR
    by_cases hlt2 : q < 24
    · obtain ⟨b2, o2, rfl, h2⟩ := rt.tx_at q (by rw [texts_len]; exact hlt2)
      have hy := texts_size (TEXTS[q]'(by rw [texts_len]; exact hlt2)) (List.getElem_mem _)
      generalize TEXTS[q]'(by rw [texts_len]; exact hlt2) = y at h2 hy
      go_wp2
      rw [show decide ((q : Int) < 24) = true from decide_eq_true (by omega)]
      go_loopw [3] (fun j wy => ∃ k : Nat, j = .int .i64 (k : Int) ∧ k ≤ y.size + 1 ∧ Kp [] w wy ∧ Rb wy (some ⟨b2, o2, none⟩) 24 24 (tx TEXTS)) (fun j _ => y.size + 1 - (intOf j).toNat)
      case atStart => exact ⟨0, rfl, by omega, kq, rt⟩
      case round =>
        obtain ⟨k, rfl, hk, ky, ry⟩ := hrel
        clear kq rt h2
        by_cases hlt3 : k ≤ y.size
        · have z1 : (y.extract 0 k).size ≤ 40 := by have := cut_le y 0 k; omega
          have z2 : (⟨#[120]⟩ ++ y.extract 0 k).size ≤ 100000 := by rw [cat_size, show ByteArray.size ⟨#[120]⟩ = 1 from rfl]; omega
          have S1 := same_law wr (y.extract 0 k) 0 true (by omega)
          have S2 := fun W => same_law W (y.extract 0 k) 0 false (by omega)
          have S3 := fun W b => same_law W (⟨#[120]⟩ ++ y.extract 0 k) 1 b z2
          have i7 : ¬ 9223372036854775807 < 1 + (y.extract 0 k).size := by omega
          clear z2
          go_wp2_with fail
          refine S1.mono ?_
          rintro e w3 ⟨rfl, k3⟩
          clear S1
          go_wp2_with fail
          refine (from_back (S2 _) k3).mono ?_
          rintro e w4 ⟨rfl, k4⟩
          clear S2 k3
          go_wp2_with fail
          refine (from_back (S3 _ _) k4).mono ?_
          rintro e w5 ⟨rfl, k5⟩
          clear S3 k4
          go_wp2
          go_roundw
          case rel => exact ⟨k + 1, by go_num, by omega, ky.trans k5 (fun x hx => by simp at hx), ry.kept k5⟩
          case measure => simp [intOf]; omega
        · go_wp2
          go_roundw
          case rel => exact ⟨q + 1, by go_num, by omega, ky, ry⟩
          case measure => simp [intOf]; omega
    · clear rt
      have S1 := same_law wr ⟨#[60, 33, 97, 62]⟩ (-1) true (by decide)
      have S2 := fun W => same_law W ⟨#[60, 33, 97, 62]⟩ 7 true (by decide)
      have S4 := fun W => known_any W
      go_wp2_with fail
      refine (from_back S1 kq).mono ?_
      rintro e w3 ⟨rfl, k3⟩
      clear S1
      go_wp2_with fail
      refine (from_back (S2 _) k3).mono ?_
      rintro e w4 ⟨rfl, k4⟩
      clear S2 k3
      go_wp2_with fail
      refine (from_back (S4 _) k4).mono ?_
      rintro e w6 ⟨rfl, k6⟩
      clear S4 k4
      go_wp2
      go_ret
      exact ⟨rfl, k6⟩

end Go.Proofs.Ythdlmglnieomeaa
