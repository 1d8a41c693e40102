/-
  The names that are asked most: which one belongs to a number.
-/
import Derived.Test.YtfobbgmfbpoigaaAgree
namespace Go.Proofs.Ytfobbgmfbpoigaa
open Go.RowKit

/-- The name of a number. -/
def nm (i : Int) : ByteArray := (NAMES.map txt)[wi i 1048576 % 48]'(by rw [names_len]; exact Nat.mod_lt _ (by omega))

theorem nm_size (i : Int) : (nm i).size ≤ 13 := names_size _ (List.getElem_mem _)

set_option maxRecDepth 100000 in
set_option maxHeartbeats 1000000 in
/-- Names: one of some. -/
theorem names_any (w : World) (i : Int) : Calls Try.prog 7 #[.int .i64 i] w fun e w' => e = .returned (.string (nm i)) ∧ Kp [] w w' := by
  obtain ⟨X, hX⟩ : ∃ X, nm i = X := ⟨_, rfl⟩
  rw [hX]
  have HR : Rb (w.alloc (.cells (tx (NAMES.map txt)).toArray 9)) (some ⟨w.heap.size, 0, none⟩) 48 48 (tx (NAMES.map txt)) := rb_lit w 9 _ _ 48 rfl (by kernel_rfl) (by omega)
  have HK : Kp [] w (w.alloc (.cells (tx (NAMES.map txt)).toArray 9)) := (Kp.refl _ _).alloc _
  go_enter Try.func7, Try.ntmps7
  go_upto_region 1 with fail
  refine wp_region_lit ?_
  refine build_texts rfl 22 9 48 _ rfl (NAMES.map txt) Try.underlying22 (by kernel_rfl) (by kernel_rfl) (by kernel_rfl) (by omega) (by omega) (by kernel_rfl) ?_
  generalize w.alloc (.cells (tx (NAMES.map txt)).toArray 9) = w1 at HR HK
  generalize some (⟨w.heap.size, 0, none⟩ : Addr) = a1 at HR
  have hj : wi i 1048576 % 48 < 48 := Nat.mod_lt _ (by omega)
  obtain ⟨b1, o1, rfl, h1⟩ := HR.tx_at (wi i 1048576 % 48) (by rw [names_len]; exact hj)
  have hX2 : (NAMES.map txt)[wi i 1048576 % 48]'(by rw [names_len]; exact hj) = X := hX
  rw [hX2] at h1
  have hwi := wi_le i 1048576
  clear HR hX hX2
  go_wp2_with fail
  refine (within_any _ i 1048576 (by omega)).mono ?_
  rintro e w2 ⟨rfl, rfl⟩
  generalize wi i 1048576 = n at h1 hj hwi
  go_wp2
  go_ret
  exact ⟨rfl, HK⟩

end Go.Proofs.Ytfobbgmfbpoigaa
