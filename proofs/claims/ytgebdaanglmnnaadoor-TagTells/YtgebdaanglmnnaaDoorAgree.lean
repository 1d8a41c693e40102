/-
  The document's Read, of any text and place; the laws' known and same.
-/
import Derived.Test.YtgebdaanglmnnaaDoorRefTagS
import Derived.Test.YtgebdaanglmnnaaDoorRefTagE
namespace Go.Proofs.YtgebdaanglmnnaaDoor
open Go.RowKit Utf
set_option linter.unusedVariables false

theorem tag_none {s : ByteArray} {a : Int} (h : begF s a = (0, 0)) : tagF s a = (zt, a, false) := by unfold tagF; rw [h, if_pos rfl]
theorem tag_some {s : ByteArray} {a k : Int} {f : Nat} (h : begF s a = (k, f)) (hk : ¬ k = 0) : tagF s a = wholeF s k f := by unfold tagF; rw [h, if_neg hk]

theorem ref_tread_any (w : World) (s : ByteArray) (a : Int) (hs : s.size ≤ 380) : Calls Tryd.prog 19 #[.string s, .int .i64 a] w fun e w' => ∃ ao n c, e = .returned (rdv (tagF s a) ao n c) ∧ Mp w w' ao n c (tagF s a).1.2.2.1 := by
  by_cases h : 0 ≤ a ∧ a < s.size ∧ bt s a.toNat = 60
  · obtain ⟨h1, h2, h3⟩ := h
    obtain ⟨p, rfl⟩ : ∃ p : Nat, a = p := ⟨a.toNat, by omega⟩
    rw [Int.toNat_natCast] at h3
    have hp : p < s.size := by omega
    cases h4 : st s (p + 1) SL with
    | true =>
      have hb := beg_end hp h3 h4
      cases h5 : isLet (bt s (p + 2)) with
      | true =>
        rw [h5, if_pos rfl] at hb
        rw [tag_some hb (by decide)]
        exact ref_tread_end w s p hs hp h3 h4 h5
      | false =>
        rw [h5, if_neg (by simp)] at hb
        rw [tag_none hb]
        exact ref_tread_no w s p hs hb
    | false =>
      have hb := beg_start hp h3 h4
      cases h5 : isLet (bt s (p + 1)) with
      | true =>
        rw [h5, if_pos rfl] at hb
        rw [tag_some hb (by decide)]
        exact ref_tread_start w s p hs hp h3 h4 h5
      | false =>
        rw [h5, if_neg (by simp)] at hb
        rw [tag_none hb]
        exact ref_tread_no w s p hs hb
  · have hb := beg_no h
    rw [tag_none hb]
    exact ref_tread_no w s a hs hb

/-- What a tag's list is, is not long. -/
theorem tag_len (s : ByteArray) (a : Int) : (tagF s a).1.2.2.1.length ≤ s.size := by
  unfold tagF
  split
  · exact Nat.zero_le _
  · unfold wholeF
    split
    · exact Nat.zero_le _
    split
    · have hb := beg_is s a
      rcases hb with ⟨_, h⟩ | ⟨_, h, _⟩
      · have h1 := in_len (s := s) (p := nameF s (begF s a).2) (name_is s (by rw [h]; exact Nat.zero_le _)).hi
        exact Nat.le_trans (uniq_len _) h1
      · have h1 := in_len (s := s) (p := nameF s (begF s a).2) (name_is s (Nat.le_of_lt h)).hi
        exact Nat.le_trans (uniq_len _) h1
    · exact Nat.zero_le _

def KNOWN : ByteArray := ⟨#[60, 65, 32, 98, 61, 49, 32, 66, 61, 50, 32, 99, 47, 62, 120]⟩
theorem known_one : tagF KNOWN 0 = ((2, ⟨#[97]⟩, [(⟨#[98]⟩, ⟨#[49]⟩), (⟨#[99]⟩, ⟨#[]⟩)], true, ⟨#[]⟩), 14, true) := by decide +kernel
theorem known_two : tagF ⟨#[60, 112]⟩ 0 = (zt, 2, false) := by decide +kernel

set_option maxHeartbeats 1000000 in
set_option maxRecDepth 100000 in
theorem known_any (w : World) (hn : Nm w) (hi : In w) : Calls Tryd.prog 10 #[] w fun e w' => e = .returned (.bool true) ∧ Kp [] w w' := by
  have H1 := tread_any w hn hi KNOWN 0 (by decide)
  have H2 := fun W (kk : Kp [] w W) => tread_any W (hn.kept kk) (hi.kept kk) ⟨#[60, 112]⟩ 0 (by decide)
  rw [known_one] at H1
  rw [known_two] at H2
  unfold rdv tv at H1 H2
  unfold zt at H2
  simp only [] at H1 H2
  unfold KNOWN at H1
  clear hn hi
  go_enter Tryd.func10, Tryd.ntmps10
  go_wp2_with fail
  refine H1.mono ?_
  rintro e w1 ⟨ao, n, c, rfl, M1⟩
  have hl := M1.len
  have k1 := M1.kp
  clear H1 M1
  simp only [List.length_cons, List.length_nil] at hl
  subst hl
  have A1 := At.new w1 #[.int .i64 2, .string ⟨#[97]⟩, .slice ao (0 + 1 + 1) c, .bool true, .string ⟨#[]⟩] 37
  have k2 := k1.alloc (.cells #[.int .i64 2, .string ⟨#[97]⟩, .slice ao (0 + 1 + 1) c, .bool true, .string ⟨#[]⟩] 37)
  clear k1
  go_wp2_with fail
  generalize w1.alloc (.cells #[.int .i64 2, .string ⟨#[97]⟩, .slice ao (0 + 1 + 1) c, .bool true, .string ⟨#[]⟩] 37) = W at A1 k2 ⊢
  generalize w1.heap.size = g at A1 ⊢
  refine (H2 _ k2).mono ?_
  rintro e w2 ⟨ao2, n2, c2, rfl, M2⟩
  have A3 := (A1.kept M2.kp (by simp)).kept ((Kp.refl [] w2).alloc (.cells #[.int .i64 0, .string ⟨#[]⟩, .slice ao2 n2 c2, .bool false, .string ⟨#[]⟩] 37)) (by simp)
  have k3 := (k2.trans M2.kp (fun z hz => by simp at hz)).alloc (.cells #[.int .i64 0, .string ⟨#[]⟩, .slice ao2 n2 c2, .bool false, .string ⟨#[]⟩] 37)
  obtain ⟨x0, x1, x2, x3, x4⟩ := A3.cells5
  clear A1 A3 M2 H2 k2
  go_wp2
  go_ret
  exact ⟨rfl, k3⟩

set_option maxHeartbeats 1000000 in
set_option maxRecDepth 100000 in
theorem tsame_law (w : World) (hn : Nm w) (hi : In w) (s : ByteArray) (a : Int) (hs : s.size ≤ 380) : Calls Tryd.prog 9 #[.string s, .int .i64 a] w fun e w' => e = .returned (.bool true) ∧ Kp [] w w' := by
  have H1 := tread_any w hn hi s a hs
  have H2 := fun W => ref_tread_any W s a hs
  have hl := tag_len s a
  generalize tagF s a = T at H1 H2 hl
  obtain ⟨⟨k, x, l, b, y⟩, m, ok⟩ := T
  unfold rdv at H1 H2
  simp only at H1 H2 hl
  have H3 := fun W ao n c bo p d (hr : Rp W ao n c l) (hq : Rp W bo p d l) => book_tsame_any W k k x x y y l l b b ao bo n c p d hr hq (by have := hr.len; omega) (by have := hq.len; omega)
  rw [decide_eq_true rfl] at H3
  unfold tv at H1 H2 H3
  clear hn hi
  go_enter Tryd.func9, Tryd.ntmps9
  go_wp2_with fail
  refine H1.mono ?_
  rintro e w1 ⟨ao, n, c, rfl, M1⟩
  clear H1
  have A1 := At.new w1 #[.int .i64 k, .string x, .slice ao n c, .bool b, .string y] 37
  have M2 := M1.kept ((Kp.refl [] w1).alloc (.cells #[.int .i64 k, .string x, .slice ao n c, .bool b, .string y] 37))
  clear M1
  go_wp2_with fail
  generalize w1.alloc (.cells #[.int .i64 k, .string x, .slice ao n c, .bool b, .string y] 37) = W at A1 M2 ⊢
  generalize w1.heap.size = g at A1 ⊢
  refine (H2 _).mono ?_
  rintro e w2 ⟨bo, p, d, rfl, M3⟩
  clear H2
  have k4 := (Kp.refl [] w2).alloc (.cells #[.int .i64 k, .string x, .slice bo p d, .bool b, .string y] 37)
  have A4 := (A1.kept M3.kp (by simp)).kept k4 (by simp)
  have A5 := At.new w2 #[.int .i64 k, .string x, .slice bo p d, .bool b, .string y] 37
  have M4 := (M2.kept M3.kp).kept k4
  have M5 := M3.kept k4
  obtain ⟨x0, x1, x2, x3, x4⟩ := A4.cells5
  obtain ⟨y0, y1, y2, y3, y4⟩ := A5.cells5
  clear A1 A4 A5 M2 M3 k4
  go_wp2_with fail
  refine (H3 _ _ _ _ _ _ _ M4.rp M5.rp).mono ?_
  rintro e w3 ⟨rfl, k5⟩
  have k6 := M4.kp.trans k5 (fun z hz => by simp at hz)
  clear H3 x0 x1 x2 x3 x4 y0 y1 y2 y3 y4 M4 M5 k5
  go_wp2
  go_ret
  refine ⟨?_, k6⟩
  simp

end Go.Proofs.YtgebdaanglmnnaaDoor
