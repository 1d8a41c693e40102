/-
  piece: one of some texts of no more than six bytes.
-/
import Derived.Test.YtgebdaanglmnnaaDoorAgree
import Derived.Test.YtgebdaanglmnnaaDoorCome
namespace Go.Proofs.YtgebdaanglmnnaaDoor
open Go.RowKit Utf
set_option linter.unusedVariables false

/-- The pieces. -/
def PIECES : List ByteArray := [⟨#[32]⟩, ⟨#[97]⟩, ⟨#[66, 61]⟩, ⟨#[61]⟩, ⟨#[34]⟩, ⟨#[39]⟩, ⟨#[47]⟩, ⟨#[62]⟩, ⟨#[120, 61, 49]⟩, ⟨#[10]⟩, ⟨#[38, 108, 116, 59]⟩, ⟨#[97, 61, 39, 113, 39]⟩, ⟨#[61, 34, 118, 32, 119, 34]⟩, ⟨#[60]⟩, ⟨#[47, 62]⟩, ⟨#[195, 169]⟩, ⟨#[65]⟩, ⟨#[38, 97, 109, 112]⟩]
theorem pieces_len : PIECES.length = 18 := by kernel_rfl
theorem pieces_size : ∀ x, x ∈ PIECES → x.size ≤ 6 := by decide +kernel

set_option maxHeartbeats 1000000 in
set_option maxRecDepth 100000 in
theorem piece_any (w : World) (n : Int) : Calls Tryd.prog 12 #[.int .i64 n] w fun e w' => ∃ t, e = .returned (.string t) ∧ t.size ≤ 6 ∧ Kp [] w w' := by
  have hk := wi_le n 1048576
  have HW := fun W => within_zero W n 1048576 (by omega)
  generalize wi n 1048576 = k at hk HW
  have HR : Rb (w.alloc (.cells (tx PIECES).toArray 9)) (some ⟨w.heap.size, 0, none⟩) 18 18 (tx PIECES) := rb_lit w 9 _ (tx PIECES) 18 rfl (by kernel_rfl) (by omega)
  have k1 : Kp [] w (w.alloc (.cells (tx PIECES).toArray 9)) := (Kp.refl _ _).alloc _
  have hj : k % 18 < 18 := Nat.mod_lt _ (by omega)
  go_enter Tryd.func12, Tryd.ntmps12
  go_wp2_with fail
  refine (HW _).mono ?_
  rintro e w2 ⟨rfl, rfl⟩
  clear HW
  go_upto_region 2 with fail
  refine wp_region_lit ?_
  refine build_texts rfl 22 9 18 _ rfl PIECES Tryd.underlying22 (by kernel_rfl) (by kernel_rfl) (by kernel_rfl) (by omega) (by omega) (by kernel_rfl) ?_
  obtain ⟨b1, o1, e1, h1⟩ := HR.tx_at (k % 18) (by rw [pieces_len]; exact hj)
  generalize w2.alloc (.cells (tx PIECES).toArray 9) = W at HR k1 h1 ⊢
  generalize some (⟨w2.heap.size, 0, none⟩ : Addr) = ta at HR e1 ⊢
  subst e1
  have hx := pieces_size (PIECES[k % 18]'(by rw [pieces_len]; exact hj)) (List.getElem_mem _)
  generalize PIECES[k % 18]'(by rw [pieces_len]; exact hj) = x at h1 hx
  clear HR
  go_wp2
  go_ret
  exact ⟨_, rfl, hx, k1⟩

end Go.Proofs.YtgebdaanglmnnaaDoor
