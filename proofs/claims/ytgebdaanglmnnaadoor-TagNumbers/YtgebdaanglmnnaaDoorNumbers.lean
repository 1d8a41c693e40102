/-
  The walk of TagNumbers: it answers true, and leaves what was there as it was.
-/
import Derived.Test.YtgebdaanglmnnaaDoorAgree
namespace Go.Proofs.YtgebdaanglmnnaaDoor
open Go.RowKit Utf
set_option linter.unusedVariables false

/-- The texts that are asked. -/
def TEXTS : List ByteArray := [⟨#[60, 65, 32, 98, 61, 49, 32, 66, 61, 50, 32, 99, 47, 62, 120]⟩, ⟨#[60, 47, 112, 32, 120, 61, 39, 62, 39, 62]⟩, ⟨#[60, 112, 32, 97, 61, 34, 38, 97, 109, 112, 59, 34, 32, 98, 61, 38, 108, 116, 32, 99, 32, 61, 32, 100, 32, 101, 61, 32, 62]⟩, ⟨#[60, 97, 32, 61, 61, 120, 62]⟩, ⟨#[60, 97, 32, 47, 98, 32, 47, 32, 99, 62]⟩, ⟨#[60, 97, 9, 98, 10, 61, 12, 39, 120, 39, 121, 62]⟩, ⟨#[60, 97, 32, 98, 61, 62]⟩, ⟨#[60, 97, 32, 98, 61, 39]⟩, ⟨#[60, 97, 32, 98, 61, 34, 120]⟩, ⟨#[60, 97, 195, 169, 47, 62]⟩, ⟨#[60, 97, 32, 98, 61, 99, 47, 62]⟩, ⟨#[60, 32, 97, 62]⟩, ⟨#[60, 47, 32, 97, 62]⟩, ⟨#[60, 49, 62]⟩, ⟨#[60, 47, 62]⟩, ⟨#[60, 97, 32, 98, 61, 49, 47, 32, 99, 61, 50, 62]⟩]
theorem texts_len : TEXTS.length = 16 := by kernel_rfl
theorem texts_size : ∀ x, x ∈ TEXTS → x.size ≤ 40 := by decide +kernel

set_option maxHeartbeats 1000000 in
set_option maxRecDepth 100000 in
theorem numbers_any (w : World) (hn : Nm w) (hi : In w) : Calls Tryd.prog 3 #[] w fun e w' => e = .returned (.bool true) ∧ Kp [] w w' := by
  have HR : Rb (w.alloc (.cells (tx TEXTS).toArray 9)) (some ⟨w.heap.size, 0, none⟩) 16 16 (tx TEXTS) := rb_lit w 9 _ (tx TEXTS) 16 rfl (by kernel_rfl) (by omega)
  have k1 : Kp [] w (w.alloc (.cells (tx TEXTS).toArray 9)) := (Kp.refl _ _).alloc _
  go_enter Tryd.func3, Tryd.ntmps3
  go_upto_region 1 with fail
  refine wp_region_lit ?_
  refine build_texts rfl 22 9 16 _ rfl TEXTS Tryd.underlying22 (by kernel_rfl) (by kernel_rfl) (by kernel_rfl) (by omega) (by omega) (by kernel_rfl) ?_
  generalize w.alloc (.cells (tx TEXTS).toArray 9) = w2 at HR k1 ⊢
  generalize some (⟨w.heap.size, 0, none⟩ : Addr) = ta at HR ⊢
  go_wp2
  go_loopw [6] (fun j wx => ∃ q : Nat, j = .int .i64 (q : Int) ∧ q ≤ 16 ∧ Kp [] w wx ∧ Rb wx ta 16 16 (tx TEXTS)) (fun j _ => 16 - (intOf j).toNat)
  case atStart => exact ⟨0, rfl, by omega, k1, HR⟩
  case round =>
    obtain ⟨q, rfl, hq, kq, rt⟩ := hrel
    clear k1 HR
    by_cases hlt2 : q < 16
    · obtain ⟨b2, o2, rfl, h2⟩ := rt.tx_at q (by rw [texts_len]; exact hlt2)
      have hy := texts_size (TEXTS[q]'(by rw [texts_len]; exact hlt2)) (List.getElem_mem _)
      generalize TEXTS[q]'(by rw [texts_len]; exact hlt2) = y at h2 hy
      go_wp2
      rw [show decide ((q : Int) < 16) = true from decide_eq_true (by omega)]
      go_loopw [3] (fun j wy => ∃ k : Nat, j = .int .i64 (k : Int) ∧ k ≤ y.size + 1 ∧ Kp [] w wy ∧ Rb wy (some ⟨b2, o2, none⟩) 16 16 (tx TEXTS)) (fun j _ => y.size + 1 - (intOf j).toNat)
      case atStart => exact ⟨0, rfl, by omega, kq, rt⟩
      case round =>
        obtain ⟨k, rfl, hk, ky, ry⟩ := hrel
        clear kq rt h2
        by_cases hlt3 : k ≤ y.size
        · have z1 : (y.extract 0 k).size ≤ 40 := by have := cut_le y 0 k; omega
          have z2 : (⟨#[120]⟩ ++ y.extract 0 k).size ≤ 380 := by rw [cat_size, show ByteArray.size ⟨#[120]⟩ = 1 from rfl]; omega
          have S1 := tsame_law wr (hn.kept ky) (hi.kept ky) (y.extract 0 k) 0 (by omega)
          have S2 := fun W (kk : Kp [] wr W) => tsame_law W (hn.kept (ky.trans kk (fun x hx => by simp at hx))) (hi.kept (ky.trans kk (fun x hx => by simp at hx))) (⟨#[120]⟩ ++ y.extract 0 k) 1 z2
          have S3 := fun W (kk : Kp [] wr W) => tsame_law W (hn.kept (ky.trans kk (fun x hx => by simp at hx))) (hi.kept (ky.trans kk (fun x hx => by simp at hx))) y (k : Int) (by omega)
          have i7 : ¬ 9223372036854775807 < 1 + (y.extract 0 k).size := by omega
          clear z2
          go_wp2_with fail
          refine S1.mono ?_
          rintro e w3 ⟨rfl, k3⟩
          clear S1
          go_wp2_with fail
          refine (from_back (S2 _ k3) k3).mono ?_
          rintro e w4 ⟨rfl, k4⟩
          clear S2 k3
          go_wp2_with fail
          refine (from_back (S3 _ k4) k4).mono ?_
          rintro e w5 ⟨rfl, k5⟩
          clear S3 k4
          go_wp2
          go_roundw
          case rel => exact ⟨k + 1, by go_num, by omega, ky.trans k5 (fun x hx => by simp at hx), ry.kept k5⟩
          case measure => simp [intOf]; omega
        · go_wp2
          go_roundw
          case rel => exact ⟨q + 1, by go_num, by omega, ky, ry⟩
          case measure => simp [intOf]; omega
    · clear rt
      have S1 := tsame_law wr (hn.kept kq) (hi.kept kq) ⟨#[60, 97, 62]⟩ (-1) (by decide)
      have S2 := fun W (kk : Kp [] w W) => tsame_law W (hn.kept kk) (hi.kept kk) ⟨#[60, 97, 62]⟩ 9 (by decide)
      have S3 := fun W (kk : Kp [] w W) => tsame_law W (hn.kept kk) (hi.kept kk) ⟨#[]⟩ 0 (by decide)
      have S4 := fun W (kk : Kp [] w W) => known_any W (hn.kept kk) (hi.kept kk)
      clear hn hi
      go_wp2_with fail
      refine (from_back S1 kq).mono ?_
      rintro e w3 ⟨rfl, k3⟩
      clear S1
      go_wp2_with fail
      refine (from_back (S2 _ k3) k3).mono ?_
      rintro e w4 ⟨rfl, k4⟩
      clear S2 k3
      go_wp2_with fail
      refine (from_back (S3 _ k4) k4).mono ?_
      rintro e w5 ⟨rfl, k5⟩
      clear S3 k4
      go_wp2_with fail
      refine (from_back (S4 _ k5) k5).mono ?_
      rintro e w6 ⟨rfl, k6⟩
      clear S4 k5
      go_wp2
      go_ret
      exact ⟨rfl, k6⟩

end Go.Proofs.YtgebdaanglmnnaaDoor
