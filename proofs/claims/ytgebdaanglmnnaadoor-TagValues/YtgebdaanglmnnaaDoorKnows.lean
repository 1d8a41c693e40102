/-
  The law's known, and piece: one of some texts of no more than six bytes. (As in the texts Agree and Piece, without the document's Read.)
-/
import Derived.Test.YtgebdaanglmnnaaDoorRead
import Derived.Test.YtgebdaanglmnnaaDoorCome
namespace Go.Proofs.YtgebdaanglmnnaaDoor
open Go.RowKit Utf
set_option linter.unusedVariables false

theorem At.cells5 {w : World} {g : Nat} {v0 v1 v2 v3 v4 : Value} (h : At w g #[v0, v1, v2, v3, v4] 37) : w.cell? ⟨g, 0, none⟩ = some v0 ∧ w.cell? ⟨g, 1, none⟩ = some v1 ∧ w.cell? ⟨g, 2, none⟩ = some v2 ∧ w.cell? ⟨g, 3, none⟩ = some v3 ∧ w.cell? ⟨g, 4, none⟩ = some v4 :=
  ⟨h.cell 0, h.cell 1, h.cell 2, h.cell 3, h.cell 4⟩

theorem tag_none {s : ByteArray} {a : Int} (h : begF s a = (0, 0)) : tagF s a = (zt, a, false) := by unfold tagF; rw [h, if_pos rfl]
theorem tag_some {s : ByteArray} {a k : Int} {f : Nat} (h : begF s a = (k, f)) (hk : ¬ k = 0) : tagF s a = wholeF s k f := by unfold tagF; rw [h, if_neg hk]

/-- What a tag's list is, is not long. -/
theorem tag_len (s : ByteArray) (a : Int) : (tagF s a).1.2.2.1.length ≤ s.size := by
  unfold tagF
  split
  · exact Nat.zero_le _
  · unfold wholeF
    split
    · exact Nat.zero_le _
    split
    · have hb := beg_is s a
      rcases hb with ⟨_, h⟩ | ⟨_, h, _⟩
      · have h1 := in_len (s := s) (p := nameF s (begF s a).2) (name_is s (by rw [h]; exact Nat.zero_le _)).hi
        exact Nat.le_trans (uniq_len _) h1
      · have h1 := in_len (s := s) (p := nameF s (begF s a).2) (name_is s (Nat.le_of_lt h)).hi
        exact Nat.le_trans (uniq_len _) h1
    · exact Nat.zero_le _

def KNOWN : ByteArray := ⟨#[60, 65, 32, 98, 61, 49, 32, 66, 61, 50, 32, 99, 47, 62, 120]⟩
theorem known_one : tagF KNOWN 0 = ((2, ⟨#[97]⟩, [(⟨#[98]⟩, ⟨#[49]⟩), (⟨#[99]⟩, ⟨#[]⟩)], true, ⟨#[]⟩), 14, true) := by decide +kernel
theorem known_two : tagF ⟨#[60, 112]⟩ 0 = (zt, 2, false) := by decide +kernel

set_option maxHeartbeats 1000000 in
set_option maxRecDepth 100000 in
theorem known_any (w : World) (hn : Nm w) (hi : In w) : Calls Tryd.prog 10 #[] w fun e w' => e = .returned (.bool true) ∧ Kp [] w w' := by
  have H1 := tread_any w hn hi KNOWN 0 (by decide)
  have H2 := fun W (kk : Kp [] w W) => tread_any W (hn.kept kk) (hi.kept kk) ⟨#[60, 112]⟩ 0 (by decide)
  rw [known_one] at H1
  rw [known_two] at H2
  unfold rdv tv at H1 H2
  unfold zt at H2
  simp only [] at H1 H2
  unfold KNOWN at H1
  clear hn hi
  go_enter Tryd.func10, Tryd.ntmps10
  go_wp2_with fail
  refine H1.mono ?_
  rintro e w1 ⟨ao, n, c, rfl, M1⟩
  have hl := M1.len
  have k1 := M1.kp
  clear H1 M1
  simp only [List.length_cons, List.length_nil] at hl
  subst hl
  have A1 := At.new w1 #[.int .i64 2, .string ⟨#[97]⟩, .slice ao (0 + 1 + 1) c, .bool true, .string ⟨#[]⟩] 37
  have k2 := k1.alloc (.cells #[.int .i64 2, .string ⟨#[97]⟩, .slice ao (0 + 1 + 1) c, .bool true, .string ⟨#[]⟩] 37)
  clear k1
  go_wp2_with fail
  generalize w1.alloc (.cells #[.int .i64 2, .string ⟨#[97]⟩, .slice ao (0 + 1 + 1) c, .bool true, .string ⟨#[]⟩] 37) = W at A1 k2 ⊢
  generalize w1.heap.size = g at A1 ⊢
  refine (H2 _ k2).mono ?_
  rintro e w2 ⟨ao2, n2, c2, rfl, M2⟩
  have A3 := (A1.kept M2.kp (by simp)).kept ((Kp.refl [] w2).alloc (.cells #[.int .i64 0, .string ⟨#[]⟩, .slice ao2 n2 c2, .bool false, .string ⟨#[]⟩] 37)) (by simp)
  have k3 := (k2.trans M2.kp (fun z hz => by simp at hz)).alloc (.cells #[.int .i64 0, .string ⟨#[]⟩, .slice ao2 n2 c2, .bool false, .string ⟨#[]⟩] 37)
  obtain ⟨x0, x1, x2, x3, x4⟩ := A3.cells5
  clear A1 A3 M2 H2 k2
  go_wp2
  go_ret
  exact ⟨rfl, k3⟩

/-- The pieces. -/
def PIECES : List ByteArray := [⟨#[32]⟩, ⟨#[97]⟩, ⟨#[66, 61]⟩, ⟨#[61]⟩, ⟨#[34]⟩, ⟨#[39]⟩, ⟨#[47]⟩, ⟨#[62]⟩, ⟨#[120, 61, 49]⟩, ⟨#[10]⟩, ⟨#[38, 108, 116, 59]⟩, ⟨#[97, 61, 39, 113, 39]⟩, ⟨#[61, 34, 118, 32, 119, 34]⟩, ⟨#[60]⟩, ⟨#[47, 62]⟩, ⟨#[195, 169]⟩, ⟨#[65]⟩, ⟨#[38, 97, 109, 112]⟩]
theorem pieces_len : PIECES.length = 18 := by kernel_rfl
theorem pieces_size : ∀ x, x ∈ PIECES → x.size ≤ 6 := by decide +kernel

set_option maxHeartbeats 1000000 in
set_option maxRecDepth 100000 in
theorem piece_any (w : World) (n : Int) : Calls Tryd.prog 12 #[.int .i64 n] w fun e w' => ∃ t, e = .returned (.string t) ∧ t.size ≤ 6 ∧ Kp [] w w' := by
  have hk := wi_le n 1048576
  have HW := fun W => within_zero W n 1048576 (by omega)
  generalize wi n 1048576 = k at hk HW
  have HR : Rb (w.alloc (.cells (tx PIECES).toArray 9)) (some ⟨w.heap.size, 0, none⟩) 18 18 (tx PIECES) := rb_lit w 9 _ (tx PIECES) 18 rfl (by kernel_rfl) (by omega)
  have k1 : Kp [] w (w.alloc (.cells (tx PIECES).toArray 9)) := (Kp.refl _ _).alloc _
  have hj : k % 18 < 18 := Nat.mod_lt _ (by omega)
  go_enter Tryd.func12, Tryd.ntmps12
  go_wp2_with fail
  refine (HW _).mono ?_
  rintro e w2 ⟨rfl, rfl⟩
  clear HW
  go_upto_region 2 with fail
  refine wp_region_lit ?_
  refine build_texts rfl 22 9 18 _ rfl PIECES Tryd.underlying22 (by kernel_rfl) (by kernel_rfl) (by kernel_rfl) (by omega) (by omega) (by kernel_rfl) ?_
  obtain ⟨b1, o1, e1, h1⟩ := HR.tx_at (k % 18) (by rw [pieces_len]; exact hj)
  generalize w2.alloc (.cells (tx PIECES).toArray 9) = W at HR k1 h1 ⊢
  generalize some (⟨w2.heap.size, 0, none⟩ : Addr) = ta at HR e1 ⊢
  subst e1
  have hx := pieces_size (PIECES[k % 18]'(by rw [pieces_len]; exact hj)) (List.getElem_mem _)
  generalize PIECES[k % 18]'(by rw [pieces_len]; exact hj) = x at h1 hx
  clear HR
  go_wp2
  go_ret
  exact ⟨_, rfl, hx, k1⟩

end Go.Proofs.YtgebdaanglmnnaaDoor
