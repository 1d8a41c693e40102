/-
  The laws' known; piece: one of some texts of no more than seven bytes.
-/
import Derived.Test.YthdlmglnieomeaaReader
import Derived.Test.YthdlmglnieomeaaCome
import Derived.Test.YthdlmglnieomeaaLit
import Derived.Test.YthdlmglnieomeaaBack
import Derived.Deep.Cut
namespace Go.Proofs.Ythdlmglnieomeaa
open Go.RowKit Utf
set_option linter.unusedVariables false

def KNOWN : ByteArray := ⟨#[60, 33, 45, 45, 97, 45, 45, 33, 62, 98]⟩
theorem known_one : mkF KNOWN 0 false = ((5, ⟨#[]⟩, ⟨#[97]⟩), 9, true) := by decide +kernel

/-- A list that is not there. -/
theorem rp_none (w : World) : Rp w none 0 0 [] := ⟨rfl, Nat.le_refl _, fun j hj => by omega⟩

set_option maxHeartbeats 1000000 in
set_option maxRecDepth 100000 in
theorem known_any (w : World) : Calls Try.prog 8 #[] w fun e w' => e = .returned (.bool true) ∧ Kp [] w w' := by
  have H1 := read_any w KNOWN 0 false (by decide)
  rw [known_one] at H1
  unfold rv mv KNOWN at H1
  simp only [] at H1
  go_enter Try.func8, Try.ntmps8
  go_wp2_with fail
  refine H1.mono ?_
  rintro e w1 ⟨rfl, k1⟩
  clear H1
  have k2 := k1.alloc (.cells #[.int .i64 5, .string ⟨#[]⟩, .slice none 0 0, .bool false, .string ⟨#[97]⟩] 32)
  clear k1
  go_wp2
  go_ret
  exact ⟨rfl, k2⟩

/-- The pieces. -/
def PIECES : List ByteArray := [⟨#[45]⟩, ⟨#[45, 45]⟩, ⟨#[62]⟩, ⟨#[33]⟩, ⟨#[97]⟩, ⟨#[32]⟩, ⟨#[93, 93, 62]⟩, ⟨#[93]⟩, ⟨#[100, 111, 99, 116, 121, 112, 101]⟩, ⟨#[68, 111, 99, 84, 121, 112, 101]⟩, ⟨#[104, 116, 109, 108]⟩, ⟨#[91, 67, 68, 65, 84, 65, 91]⟩, ⟨#[63]⟩, ⟨#[60]⟩, ⟨#[45, 45, 33, 62]⟩, ⟨#[10]⟩]
theorem pieces_len : PIECES.length = 16 := by kernel_rfl
theorem pieces_size : ∀ x, x ∈ PIECES → x.size ≤ 7 := by decide +kernel

set_option maxHeartbeats 1000000 in
set_option maxRecDepth 100000 in
theorem piece_any (w : World) (n : Int) : Calls Try.prog 11 #[.int .i64 n] w fun e w' => ∃ t, e = .returned (.string t) ∧ t.size ≤ 7 ∧ Kp [] w w' := by
  have hk := wi_le n 1048576
  have HW := fun W => within_zero W n 1048576 (by omega)
  generalize wi n 1048576 = k at hk HW
  have HR : Rb (w.alloc (.cells (tx PIECES).toArray 9)) (some ⟨w.heap.size, 0, none⟩) 16 16 (tx PIECES) := rb_lit w 9 _ (tx PIECES) 16 rfl (by kernel_rfl) (by omega)
  have k1 : Kp [] w (w.alloc (.cells (tx PIECES).toArray 9)) := (Kp.refl _ _).alloc _
  have hj : k % 16 < 16 := Nat.mod_lt _ (by omega)
  go_enter Try.func11, Try.ntmps11
  go_wp2_with fail
  refine (HW _).mono ?_
  rintro e w2 ⟨rfl, rfl⟩
  clear HW
  go_upto_region 2 with fail
  refine wp_region_lit ?_
  refine build_texts rfl 22 9 16 _ rfl PIECES Try.underlying22 (by kernel_rfl) (by kernel_rfl) (by kernel_rfl) (by omega) (by omega) (by kernel_rfl) ?_
  obtain ⟨b1, o1, e1, h1⟩ := HR.tx_at (k % 16) (by rw [pieces_len]; exact hj)
  generalize w2.alloc (.cells (tx PIECES).toArray 9) = W at HR k1 h1 ⊢
  generalize some (⟨w2.heap.size, 0, none⟩ : Addr) = ta at HR e1 ⊢
  subst e1
  have hx := pieces_size (PIECES[k % 16]'(by rw [pieces_len]; exact hj)) (List.getElem_mem _)
  generalize PIECES[k % 16]'(by rw [pieces_len]; exact hj) = x at h1 hx
  clear HR
  go_wp2
  go_ret
  exact ⟨_, rfl, hx, k1⟩

end Go.Proofs.Ythdlmglnieomeaa
