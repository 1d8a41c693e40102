/-
  The program's begins, read and Read, of any text and place.
-/
import Derived.Test.YthdlmglnieomeaaParts
namespace Go.Proofs.Ythdlmglnieomeaa
open Go.RowKit Utf
set_option linter.unusedVariables false

theorem begM_false {s : ByteArray} {p : Nat} (h : ¬ (p + 1 < s.size ∧ bt s p = 60 ∧ (bt s (p + 1) = 33 ∨ bt s (p + 1) = 63 ∨ (bt s (p + 1) = 47 ∧ p + 2 < s.size ∧ isLet (bt s (p + 2)) = false)))) : begM s p = false := decide_eq_false h
theorem begM_true {s : ByteArray} {p : Nat} (h : p + 1 < s.size ∧ bt s p = 60 ∧ (bt s (p + 1) = 33 ∨ bt s (p + 1) = 63 ∨ (bt s (p + 1) = 47 ∧ p + 2 < s.size ∧ isLet (bt s (p + 2)) = false))) : begM s p = true := decide_eq_true h

set_option maxHeartbeats 1000000 in
set_option maxRecDepth 100000 in
theorem begins_at (w : World) (s : ByteArray) (p : Nat) (hs : s.size ≤ 100000) (hp : p + 1 < s.size) : Calls Try.prog 16 #[.string s, .int .i64 (p : Int)] w fun e w' => e = .returned (.bool (begM s p)) ∧ w' = w := by
  have c1 : ¬ (p : Int) < 0 := by omega
  have c2 : ¬ (s.size : Int) - 1 ≤ (p : Int) := by omega
  have i0 := index_at s (p : Int) p rfl (by omega)
  have i1 := index_at s ((p : Int) + 1) (p + 1) (by omega) hp
  by_cases h0 : bt s p = 60
  · rw [h0] at i0
    by_cases h1 : bt s (p + 1) = 33
    · rw [begM_true ⟨hp, h0, Or.inl h1⟩]
      rw [h1] at i1
      clear h0 h1
      go_enter Try.func16, Try.ntmps16
      go_wp2
      go_ret
      exact ⟨rfl, rfl⟩
    by_cases h2 : bt s (p + 1) = 63
    · rw [begM_true ⟨hp, h0, Or.inr (Or.inl h2)⟩]
      rw [h2] at i1
      clear h0 h1 h2
      go_enter Try.func16, Try.ntmps16
      go_wp2
      go_ret
      exact ⟨rfl, rfl⟩
    by_cases h3 : bt s (p + 1) = 47
    · rw [h3] at i1
      by_cases h4 : p + 2 < s.size
      · have i2 := index_at s ((p : Int) + 2) (p + 2) (by omega) h4
        obtain ⟨q1, q2⟩ := bt_range s (p + 2)
        have HL := fun W => letter_any W (bt s (p + 2))
        have hb : begM s p = !(isLet (bt s (p + 2))) := by
          cases hx : isLet (bt s (p + 2)) with
          | false => exact begM_true ⟨hp, h0, Or.inr (Or.inr ⟨h3, h4, hx⟩)⟩
          | true =>
            refine begM_false fun h => ?_
            rcases h.2.2 with g | g | g
            · exact h1 g
            · exact h2 g
            · rw [hx] at g; exact absurd g.2.2 (by simp)
        rw [hb]
        generalize bt s (p + 2) = x at i2 q1 q2 HL ⊢
        have c3 : (p : Int) + 2 < (s.size : Int) := by omega
        clear h0 h1 h2 h3 hb
        go_enter Try.func16, Try.ntmps16
        go_wp2_with fail
        refine (HL _).mono ?_
        rintro e w2 ⟨rfl, rfl⟩
        clear HL
        go_wp2
        go_ret
        exact ⟨rfl, rfl⟩
      · rw [begM_false (fun h => by
          rcases h.2.2 with g | g | g
          · exact h1 g
          · exact h2 g
          · exact h4 g.2.1)]
        have c3 : ¬ (p : Int) + 2 < (s.size : Int) := by omega
        clear h0 h1 h2 h3
        go_enter Try.func16, Try.ntmps16
        go_wp2
        go_ret
        exact ⟨rfl, rfl⟩
    · rw [begM_false (fun h => by
        rcases h.2.2 with g | g | g
        · exact h1 g
        · exact h2 g
        · exact h3 g.1)]
      have b1 : (bt s (p + 1) == 33) = false := by simpa using h1
      have b2 : (bt s (p + 1) == 63) = false := by simpa using h2
      have b3 : (bt s (p + 1) == 47) = false := by simpa using h3
      generalize bt s (p + 1) = x at i1 b1 b2 b3
      clear h0 h1 h2 h3
      go_enter Try.func16, Try.ntmps16
      go_wp2
      go_ret
      exact ⟨rfl, rfl⟩
  · rw [begM_false (fun h => h0 h.2.1)]
    have b0 : (bt s p != 60) = true := by simpa using h0
    have b1 : (bt s p == 60) = false := by simpa using h0
    generalize bt s p = x at i0 b0 b1
    clear h0
    go_enter Try.func16, Try.ntmps16
    go_wp2
    go_ret
    exact ⟨rfl, rfl⟩

theorem begins_no (w : World) (s : ByteArray) (a : Int) (hs : s.size ≤ 100000) (h : a < 0 ∨ (s.size : Int) ≤ a + 1) : Calls Try.prog 16 #[.string s, .int .i64 a] w fun e w' => e = .returned (.bool false) ∧ w' = w := by
  by_cases h1 : a < 0
  · clear h
    go_enter Try.func16, Try.ntmps16
    go_wp2
    go_ret
    exact ⟨rfl, rfl⟩
  · have h2 : (s.size : Int) - 1 ≤ a := by omega
    clear h
    go_enter Try.func16, Try.ntmps16
    go_wp2
    go_ret
    exact ⟨rfl, rfl⟩

set_option maxHeartbeats 1000000 in
set_option maxRecDepth 100000 in
theorem mread_any (w : World) (s : ByteArray) (p : Nat) (b : Bool) (hs : s.size ≤ 100000) (hp : p + 1 < s.size) :
    Calls Try.prog 17 #[.string s, .int .i64 (p : Int), .bool b] w fun e w' => e = .returned (.tuple #[mv (rdM s p b).1, .int .i64 ((rdM s p b).2 : Int)]) ∧ Kp [] w w' := by
  have H1 := fun W => starts_any W s (p : Int) EMP hs
  have H2 := fun W => starts_any W s (p : Int) COM hs
  have H3 := fun W => fold_any W s (p : Int) DOC hs
  have H4 := fun W => starts_any W s (p : Int) CDA hs
  rw [pl_of (by omega)] at H1 H2 H3 H4
  have i1 := index_at s ((p : Int) + 1) (p + 1) (by omega) hp
  unfold rdM
  cases h1 : st s p EMP with
  | true =>
    rw [h1] at H1
    rw [if_pos rfl]
    have h5 : p + 3 ≤ s.size := st_le h1
    unfold mv z3
    simp only []
    unfold EMP at H1
    clear H2 H3 H4 i1 h1
    have A1 := At.new w ZT 32
    have k1 : Kp [] w (w.alloc (.cells ZT 32)) := (Kp.refl _ _).alloc _
    go_enter Try.func17, Try.ntmps17
    go_wp2_with fail
    refine (H1 _).mono ?_
    rintro e w1 ⟨rfl, k2⟩
    replace A1 := A1.kept k2 (by simp)
    replace k1 := k1.trans k2 (fun z hz => by simp at hz)
    clear H1 k2
    obtain ⟨c0, c1, c2, c3, c4⟩ := A1.cells5
    have f0 := fun j => A1.free j
    have D : Hid _ := laid5 k1 A1 (Nat.le_refl _) (.int .i64 0) (.string ⟨#[]⟩) (.slice none 0 0) (.bool false) (.string ⟨#[]⟩)
    clear A1 k1
    generalize w.heap.size = g0 at c0 c1 c2 c3 c4 f0 D ⊢
    go_wp2
    obtain ⟨d0, d1, d2, d3, d4, kz⟩ := D.out
    unfold put5 at d0 d1 d2 d3 d4 kz
    refine bodyPost_ret (v := .tuple #[.agg #[.int .i64 0, .string ⟨#[]⟩, .slice none 0 0, .bool false, .string ⟨#[]⟩], .int .i64 ((p + 3 : Nat) : Int)]) (by simp [results, go_sem, d0, d1, d2, d3, d4]) rfl ⟨rfl, kz⟩
  | false =>
    rw [h1] at H1
    rw [if_neg (by simp)]
    unfold EMP at H1
    clear h1
    cases h2 : st s p COM with
    | true =>
      rw [h2] at H2
      rw [if_pos rfl]
      have h5 : p + 4 ≤ s.size := st_le h2
      unfold COM at H2
      clear H3 H4 i1 h2
      have HC := fun W => comment_any W s (p + 4) (by omega) hs
      generalize cF s (p + 4) = R at HC ⊢
      obtain ⟨⟨k, x, y⟩, n⟩ := R
      unfold mv at HC ⊢
      simp only [] at HC ⊢
      push_cast at HC
      have A1 := At.new w ZT 32
      have k1 : Kp [] w (w.alloc (.cells ZT 32)) := (Kp.refl _ _).alloc _
      go_enter Try.func17, Try.ntmps17
      go_wp2_with fail
      refine (H1 _).mono ?_
      rintro e w1 ⟨rfl, k2⟩
      replace A1 := A1.kept k2 (by simp)
      replace k1 := k1.trans k2 (fun z hz => by simp at hz)
      clear H1 k2
      go_wp2_with fail
      refine (H2 _).mono ?_
      rintro e w1 ⟨rfl, k2⟩
      replace A1 := A1.kept k2 (by simp)
      replace k1 := k1.trans k2 (fun z hz => by simp at hz)
      clear H2 k2
      go_wp2_with fail
      refine (HC _).mono ?_
      rintro e w1 ⟨rfl, k2⟩
      replace A1 := A1.kept k2 (by simp)
      replace k1 := k1.trans k2 (fun z hz => by simp at hz)
      clear HC k2
      obtain ⟨c0, c1, c2, c3, c4⟩ := A1.cells5
      have f0 := fun j => A1.free j
      have D : Hid _ := laid5 k1 A1 (Nat.le_refl _) (.int .i64 k) (.string x) (.slice none 0 0) (.bool false) (.string y)
      clear A1 k1
      generalize w.heap.size = g0 at c0 c1 c2 c3 c4 f0 D ⊢
      go_wp2
      obtain ⟨d0, d1, d2, d3, d4, kz⟩ := D.out
      unfold put5 at d0 d1 d2 d3 d4 kz
      refine bodyPost_ret (v := .tuple #[.agg #[.int .i64 k, .string x, .slice none 0 0, .bool false, .string y], .int .i64 (n : Int)]) (by simp [results, go_sem, d0, d1, d2, d3, d4]) rfl ⟨rfl, kz⟩
    | false =>
      rw [h2] at H2
      rw [if_neg (by simp)]
      unfold COM at H2
      clear h2
      cases h3 : fo s p DOC with
      | true =>
        rw [h3] at H3
        rw [if_pos rfl]
        have h5 : p + 9 ≤ s.size := fo_le h3
        unfold DOC at H3
        clear H4 i1 h3
        have HC := fun W => doctype_any W s (p + 9) (by omega) hs
        generalize dF s (p + 9) = R at HC ⊢
        obtain ⟨⟨k, x, y⟩, n⟩ := R
        unfold mv at HC ⊢
        simp only [] at HC ⊢
        push_cast at HC
        have A1 := At.new w ZT 32
        have k1 : Kp [] w (w.alloc (.cells ZT 32)) := (Kp.refl _ _).alloc _
        go_enter Try.func17, Try.ntmps17
        go_wp2_with fail
        refine (H1 _).mono ?_
        rintro e w1 ⟨rfl, k2⟩
        replace A1 := A1.kept k2 (by simp)
        replace k1 := k1.trans k2 (fun z hz => by simp at hz)
        clear H1 k2
        go_wp2_with fail
        refine (H2 _).mono ?_
        rintro e w1 ⟨rfl, k2⟩
        replace A1 := A1.kept k2 (by simp)
        replace k1 := k1.trans k2 (fun z hz => by simp at hz)
        clear H2 k2
        go_wp2_with fail
        refine (H3 _).mono ?_
        rintro e w1 ⟨rfl, k2⟩
        replace A1 := A1.kept k2 (by simp)
        replace k1 := k1.trans k2 (fun z hz => by simp at hz)
        clear H3 k2
        go_wp2_with fail
        refine (HC _).mono ?_
        rintro e w1 ⟨rfl, k2⟩
        replace A1 := A1.kept k2 (by simp)
        replace k1 := k1.trans k2 (fun z hz => by simp at hz)
        clear HC k2
        obtain ⟨c0, c1, c2, c3, c4⟩ := A1.cells5
        have f0 := fun j => A1.free j
        have D : Hid _ := laid5 k1 A1 (Nat.le_refl _) (.int .i64 k) (.string x) (.slice none 0 0) (.bool false) (.string y)
        clear A1 k1
        generalize w.heap.size = g0 at c0 c1 c2 c3 c4 f0 D ⊢
        go_wp2
        obtain ⟨d0, d1, d2, d3, d4, kz⟩ := D.out
        unfold put5 at d0 d1 d2 d3 d4 kz
        refine bodyPost_ret (v := .tuple #[.agg #[.int .i64 k, .string x, .slice none 0 0, .bool false, .string y], .int .i64 (n : Int)]) (by simp [results, go_sem, d0, d1, d2, d3, d4]) rfl ⟨rfl, kz⟩
      | false =>
        rw [h3] at H3
        rw [if_neg (by simp)]
        unfold DOC at H3
        clear h3
        have tail : ∀ (HF : Bool), True := fun _ => trivial
        clear tail
        cases b with
        | true =>
          rw [Bool.true_and]
          cases h4 : st s p CDA with
          | true =>
            rw [h4] at H4
            rw [if_pos rfl]
            have h5 : p + 9 ≤ s.size := st_le h4
            unfold CDA at H4
            clear i1 h4
            have HC := fun W => cdata_any W s (p + 9) (by omega) hs
            generalize kF s (p + 9) = R at HC ⊢
            obtain ⟨⟨k, x, y⟩, n⟩ := R
            unfold mv at HC ⊢
            simp only [] at HC ⊢
            push_cast at HC
            have A1 := At.new w ZT 32
            have k1 : Kp [] w (w.alloc (.cells ZT 32)) := (Kp.refl _ _).alloc _
            go_enter Try.func17, Try.ntmps17
            go_wp2_with fail
            refine (H1 _).mono ?_
            rintro e w1 ⟨rfl, k2⟩
            replace A1 := A1.kept k2 (by simp)
            replace k1 := k1.trans k2 (fun z hz => by simp at hz)
            clear H1 k2
            go_wp2_with fail
            refine (H2 _).mono ?_
            rintro e w1 ⟨rfl, k2⟩
            replace A1 := A1.kept k2 (by simp)
            replace k1 := k1.trans k2 (fun z hz => by simp at hz)
            clear H2 k2
            go_wp2_with fail
            refine (H3 _).mono ?_
            rintro e w1 ⟨rfl, k2⟩
            replace A1 := A1.kept k2 (by simp)
            replace k1 := k1.trans k2 (fun z hz => by simp at hz)
            clear H3 k2
            go_wp2_with fail
            refine (H4 _).mono ?_
            rintro e w1 ⟨rfl, k2⟩
            replace A1 := A1.kept k2 (by simp)
            replace k1 := k1.trans k2 (fun z hz => by simp at hz)
            clear H4 k2
            go_wp2_with fail
            refine (HC _).mono ?_
            rintro e w1 ⟨rfl, k2⟩
            replace A1 := A1.kept k2 (by simp)
            replace k1 := k1.trans k2 (fun z hz => by simp at hz)
            clear HC k2
            obtain ⟨c0, c1, c2, c3, c4⟩ := A1.cells5
            have f0 := fun j => A1.free j
            have D : Hid _ := laid5 k1 A1 (Nat.le_refl _) (.int .i64 k) (.string x) (.slice none 0 0) (.bool false) (.string y)
            clear A1 k1
            generalize w.heap.size = g0 at c0 c1 c2 c3 c4 f0 D ⊢
            go_wp2
            obtain ⟨d0, d1, d2, d3, d4, kz⟩ := D.out
            unfold put5 at d0 d1 d2 d3 d4 kz
            refine bodyPost_ret (v := .tuple #[.agg #[.int .i64 k, .string x, .slice none 0 0, .bool false, .string y], .int .i64 (n : Int)]) (by simp [results, go_sem, d0, d1, d2, d3, d4]) rfl ⟨rfl, kz⟩
          | false =>
            rw [h4] at H4
            rw [if_neg (by simp)]
            unfold CDA at H4
            clear h4
            by_cases h6 : bt s (p + 1) = 63
            · rw [if_pos h6]
              rw [h6] at i1
              clear h6
              have HC := fun W => other_any W s (p + 1) (by omega) hs
              generalize oF s (p + 1) = R at HC ⊢
              obtain ⟨⟨k, x, y⟩, n⟩ := R
              unfold mv at HC ⊢
              simp only [] at HC ⊢
              push_cast at HC
              have A1 := At.new w ZT 32
              have k1 : Kp [] w (w.alloc (.cells ZT 32)) := (Kp.refl _ _).alloc _
              go_enter Try.func17, Try.ntmps17
              go_wp2_with fail
              refine (H1 _).mono ?_
              rintro e w1 ⟨rfl, k2⟩
              replace A1 := A1.kept k2 (by simp)
              replace k1 := k1.trans k2 (fun z hz => by simp at hz)
              clear H1 k2
              go_wp2_with fail
              refine (H2 _).mono ?_
              rintro e w1 ⟨rfl, k2⟩
              replace A1 := A1.kept k2 (by simp)
              replace k1 := k1.trans k2 (fun z hz => by simp at hz)
              clear H2 k2
              go_wp2_with fail
              refine (H3 _).mono ?_
              rintro e w1 ⟨rfl, k2⟩
              replace A1 := A1.kept k2 (by simp)
              replace k1 := k1.trans k2 (fun z hz => by simp at hz)
              clear H3 k2
              go_wp2_with fail
              refine (H4 _).mono ?_
              rintro e w1 ⟨rfl, k2⟩
              replace A1 := A1.kept k2 (by simp)
              replace k1 := k1.trans k2 (fun z hz => by simp at hz)
              clear H4 k2
              go_wp2_with fail
              refine (HC _).mono ?_
              rintro e w1 ⟨rfl, k2⟩
              replace A1 := A1.kept k2 (by simp)
              replace k1 := k1.trans k2 (fun z hz => by simp at hz)
              clear HC k2
              obtain ⟨c0, c1, c2, c3, c4⟩ := A1.cells5
              have f0 := fun j => A1.free j
              have D : Hid _ := laid5 k1 A1 (Nat.le_refl _) (.int .i64 k) (.string x) (.slice none 0 0) (.bool false) (.string y)
              clear A1 k1
              generalize w.heap.size = g0 at c0 c1 c2 c3 c4 f0 D ⊢
              go_wp2
              obtain ⟨d0, d1, d2, d3, d4, kz⟩ := D.out
              unfold put5 at d0 d1 d2 d3 d4 kz
              refine bodyPost_ret (v := .tuple #[.agg #[.int .i64 k, .string x, .slice none 0 0, .bool false, .string y], .int .i64 (n : Int)]) (by simp [results, go_sem, d0, d1, d2, d3, d4]) rfl ⟨rfl, kz⟩
            · rw [if_neg h6]
              have b6 : (bt s (p + 1) == 63) = false := by simpa using h6
              generalize bt s (p + 1) = z at i1 b6
              clear h6
              have HC := fun W => other_any W s (p + 2) (by omega) hs
              generalize oF s (p + 2) = R at HC ⊢
              obtain ⟨⟨k, x, y⟩, n⟩ := R
              unfold mv at HC ⊢
              simp only [] at HC ⊢
              push_cast at HC
              have A1 := At.new w ZT 32
              have k1 : Kp [] w (w.alloc (.cells ZT 32)) := (Kp.refl _ _).alloc _
              go_enter Try.func17, Try.ntmps17
              go_wp2_with fail
              refine (H1 _).mono ?_
              rintro e w1 ⟨rfl, k2⟩
              replace A1 := A1.kept k2 (by simp)
              replace k1 := k1.trans k2 (fun z hz => by simp at hz)
              clear H1 k2
              go_wp2_with fail
              refine (H2 _).mono ?_
              rintro e w1 ⟨rfl, k2⟩
              replace A1 := A1.kept k2 (by simp)
              replace k1 := k1.trans k2 (fun z hz => by simp at hz)
              clear H2 k2
              go_wp2_with fail
              refine (H3 _).mono ?_
              rintro e w1 ⟨rfl, k2⟩
              replace A1 := A1.kept k2 (by simp)
              replace k1 := k1.trans k2 (fun z hz => by simp at hz)
              clear H3 k2
              go_wp2_with fail
              refine (H4 _).mono ?_
              rintro e w1 ⟨rfl, k2⟩
              replace A1 := A1.kept k2 (by simp)
              replace k1 := k1.trans k2 (fun z hz => by simp at hz)
              clear H4 k2
              go_wp2_with fail
              refine (HC _).mono ?_
              rintro e w1 ⟨rfl, k2⟩
              replace A1 := A1.kept k2 (by simp)
              replace k1 := k1.trans k2 (fun z hz => by simp at hz)
              clear HC k2
              obtain ⟨c0, c1, c2, c3, c4⟩ := A1.cells5
              have f0 := fun j => A1.free j
              have D : Hid _ := laid5 k1 A1 (Nat.le_refl _) (.int .i64 k) (.string x) (.slice none 0 0) (.bool false) (.string y)
              clear A1 k1
              generalize w.heap.size = g0 at c0 c1 c2 c3 c4 f0 D ⊢
              go_wp2
              obtain ⟨d0, d1, d2, d3, d4, kz⟩ := D.out
              unfold put5 at d0 d1 d2 d3 d4 kz
              refine bodyPost_ret (v := .tuple #[.agg #[.int .i64 k, .string x, .slice none 0 0, .bool false, .string y], .int .i64 (n : Int)]) (by simp [results, go_sem, d0, d1, d2, d3, d4]) rfl ⟨rfl, kz⟩
        | false =>
          rw [Bool.false_and, if_neg (by simp)]
          clear H4
          by_cases h6 : bt s (p + 1) = 63
          · rw [if_pos h6]
            rw [h6] at i1
            clear h6
            have HC := fun W => other_any W s (p + 1) (by omega) hs
            generalize oF s (p + 1) = R at HC ⊢
            obtain ⟨⟨k, x, y⟩, n⟩ := R
            unfold mv at HC ⊢
            simp only [] at HC ⊢
            push_cast at HC
            have A1 := At.new w ZT 32
            have k1 : Kp [] w (w.alloc (.cells ZT 32)) := (Kp.refl _ _).alloc _
            go_enter Try.func17, Try.ntmps17
            go_wp2_with fail
            refine (H1 _).mono ?_
            rintro e w1 ⟨rfl, k2⟩
            replace A1 := A1.kept k2 (by simp)
            replace k1 := k1.trans k2 (fun z hz => by simp at hz)
            clear H1 k2
            go_wp2_with fail
            refine (H2 _).mono ?_
            rintro e w1 ⟨rfl, k2⟩
            replace A1 := A1.kept k2 (by simp)
            replace k1 := k1.trans k2 (fun z hz => by simp at hz)
            clear H2 k2
            go_wp2_with fail
            refine (H3 _).mono ?_
            rintro e w1 ⟨rfl, k2⟩
            replace A1 := A1.kept k2 (by simp)
            replace k1 := k1.trans k2 (fun z hz => by simp at hz)
            clear H3 k2
            go_wp2_with fail
            refine (HC _).mono ?_
            rintro e w1 ⟨rfl, k2⟩
            replace A1 := A1.kept k2 (by simp)
            replace k1 := k1.trans k2 (fun z hz => by simp at hz)
            clear HC k2
            obtain ⟨c0, c1, c2, c3, c4⟩ := A1.cells5
            have f0 := fun j => A1.free j
            have D : Hid _ := laid5 k1 A1 (Nat.le_refl _) (.int .i64 k) (.string x) (.slice none 0 0) (.bool false) (.string y)
            clear A1 k1
            generalize w.heap.size = g0 at c0 c1 c2 c3 c4 f0 D ⊢
            go_wp2
            obtain ⟨d0, d1, d2, d3, d4, kz⟩ := D.out
            unfold put5 at d0 d1 d2 d3 d4 kz
            refine bodyPost_ret (v := .tuple #[.agg #[.int .i64 k, .string x, .slice none 0 0, .bool false, .string y], .int .i64 (n : Int)]) (by simp [results, go_sem, d0, d1, d2, d3, d4]) rfl ⟨rfl, kz⟩
          · rw [if_neg h6]
            have b6 : (bt s (p + 1) == 63) = false := by simpa using h6
            generalize bt s (p + 1) = z at i1 b6
            clear h6
            have HC := fun W => other_any W s (p + 2) (by omega) hs
            generalize oF s (p + 2) = R at HC ⊢
            obtain ⟨⟨k, x, y⟩, n⟩ := R
            unfold mv at HC ⊢
            simp only [] at HC ⊢
            push_cast at HC
            have A1 := At.new w ZT 32
            have k1 : Kp [] w (w.alloc (.cells ZT 32)) := (Kp.refl _ _).alloc _
            go_enter Try.func17, Try.ntmps17
            go_wp2_with fail
            refine (H1 _).mono ?_
            rintro e w1 ⟨rfl, k2⟩
            replace A1 := A1.kept k2 (by simp)
            replace k1 := k1.trans k2 (fun z hz => by simp at hz)
            clear H1 k2
            go_wp2_with fail
            refine (H2 _).mono ?_
            rintro e w1 ⟨rfl, k2⟩
            replace A1 := A1.kept k2 (by simp)
            replace k1 := k1.trans k2 (fun z hz => by simp at hz)
            clear H2 k2
            go_wp2_with fail
            refine (H3 _).mono ?_
            rintro e w1 ⟨rfl, k2⟩
            replace A1 := A1.kept k2 (by simp)
            replace k1 := k1.trans k2 (fun z hz => by simp at hz)
            clear H3 k2
            go_wp2_with fail
            refine (HC _).mono ?_
            rintro e w1 ⟨rfl, k2⟩
            replace A1 := A1.kept k2 (by simp)
            replace k1 := k1.trans k2 (fun z hz => by simp at hz)
            clear HC k2
            obtain ⟨c0, c1, c2, c3, c4⟩ := A1.cells5
            have f0 := fun j => A1.free j
            have D : Hid _ := laid5 k1 A1 (Nat.le_refl _) (.int .i64 k) (.string x) (.slice none 0 0) (.bool false) (.string y)
            clear A1 k1
            generalize w.heap.size = g0 at c0 c1 c2 c3 c4 f0 D ⊢
            go_wp2
            obtain ⟨d0, d1, d2, d3, d4, kz⟩ := D.out
            unfold put5 at d0 d1 d2 d3 d4 kz
            refine bodyPost_ret (v := .tuple #[.agg #[.int .i64 k, .string x, .slice none 0 0, .bool false, .string y], .int .i64 (n : Int)]) (by simp [results, go_sem, d0, d1, d2, d3, d4]) rfl ⟨rfl, kz⟩

/-- What Read answers, as a value. -/
def rv (T : Mt × Int × Bool) : Value := .tuple #[mv T.1, .int .i64 T.2.1, .bool T.2.2]

set_option maxHeartbeats 1000000 in
set_option maxRecDepth 100000 in
theorem read_no (w : World) (s : ByteArray) (a : Int) (b : Bool) (HB : ∀ W, Calls Try.prog 16 #[.string s, .int .i64 a] W fun e w' => e = .returned (.bool false) ∧ w' = W) :
    Calls Try.prog 12 #[.string s, .int .i64 a, .bool b] w fun e w' => e = .returned (rv (z3, a, false)) ∧ Kp [] w w' := by
  unfold rv mv z3
  simp only []
  have A1 := At.new w ZT 32
  have k1 : Kp [] w (w.alloc (.cells ZT 32)) := (Kp.refl _ _).alloc _
  go_enter Try.func12, Try.ntmps12
  go_wp2_with fail
  refine (HB _).mono ?_
  rintro e w1 ⟨rfl, rfl⟩
  clear HB
  generalize w.alloc (.cells ZT 32) = W at A1 k1 ⊢
  obtain ⟨c0, c1, c2, c3, c4⟩ := A1.cells5
  have f0 := fun j => A1.free j
  have D : Hid _ := laid5 k1 A1 (Nat.le_refl _) (.int .i64 0) (.string ⟨#[]⟩) (.slice none 0 0) (.bool false) (.string ⟨#[]⟩)
  clear A1 k1
  generalize w.heap.size = g0 at c0 c1 c2 c3 c4 f0 D ⊢
  go_wp2
  obtain ⟨d0, d1, d2, d3, d4, kz⟩ := D.out
  unfold put5 at d0 d1 d2 d3 d4 kz
  refine bodyPost_ret (v := .tuple #[.agg #[.int .i64 0, .string ⟨#[]⟩, .slice none 0 0, .bool false, .string ⟨#[]⟩], .int .i64 a, .bool false]) (by simp [results, go_sem, d0, d1, d2, d3, d4]) rfl ⟨rfl, kz⟩

set_option maxHeartbeats 1000000 in
set_option maxRecDepth 100000 in
theorem read_yes (w : World) (s : ByteArray) (p : Nat) (b : Bool) (hs : s.size ≤ 100000) (hp : p + 1 < s.size) (hb : begM s p = true) :
    Calls Try.prog 12 #[.string s, .int .i64 (p : Int), .bool b] w fun e w' => e = .returned (rv ((rdM s p b).1, ((rdM s p b).2 : Int), true)) ∧ Kp [] w w' := by
  have HB := fun W => begins_at W s p hs hp
  rw [hb] at HB
  have HC := fun W => mread_any W s p b hs hp
  generalize rdM s p b = R at HC ⊢
  obtain ⟨⟨k, x, y⟩, n⟩ := R
  unfold mv at HC
  unfold rv mv
  simp only [] at HC ⊢
  clear hb
  have A0 := At.new w ZT 32
  have k0 : Kp [] w (w.alloc (.cells ZT 32)) := (Kp.refl _ _).alloc _
  go_enter Try.func12, Try.ntmps12
  go_wp2_with fail
  refine (HB _).mono ?_
  rintro e w1 ⟨rfl, rfl⟩
  clear HB
  go_wp2_with fail
  generalize w.alloc (.cells ZT 32) = W at A0 k0 ⊢
  refine (HC _).mono ?_
  rintro e w1 ⟨rfl, k2⟩
  clear HC
  have B := Bx.new (k0.trans k2 (fun z hz => by simp at hz)) (A0.kept k2 (by simp)) (Nat.le_refl _) (.int .i64 k) (.string x) (.slice none 0 0) (.bool false) (.string y)
  obtain ⟨⟨x0, x1, x2, x3, x4⟩, _, ⟨c0, c1, c2, c3, c4⟩, f0⟩ := B.facts
  have D : Hid _ := laid5 B.kp B.r B.n0 (.int .i64 k) (.string x) (.slice none 0 0) (.bool false) (.string y)
  clear B k0 k2 A0
  generalize w.heap.size = g0 at c0 c1 c2 c3 c4 f0 D ⊢
  go_wp2
  obtain ⟨d0, d1, d2, d3, d4, kz⟩ := D.out
  unfold put5 at d0 d1 d2 d3 d4 kz
  refine bodyPost_ret (v := .tuple #[.agg #[.int .i64 k, .string x, .slice none 0 0, .bool false, .string y], .int .i64 (n : Int), .bool true]) (by simp [results, go_sem, d0, d1, d2, d3, d4]) rfl ⟨rfl, kz⟩

theorem read_any (w : World) (s : ByteArray) (a : Int) (b : Bool) (hs : s.size ≤ 100000) :
    Calls Try.prog 12 #[.string s, .int .i64 a, .bool b] w fun e w' => e = .returned (rv (mkF s a b)) ∧ Kp [] w w' := by
  by_cases h : a < 0 ∨ (s.size : Int) ≤ a + 1
  · have : mkF s a b = (z3, a, false) := by
      rcases h with h | h
      · exact mk_lo h b
      · exact mk_hi h b
    rw [this]
    exact read_no w s a b (fun W => begins_no W s a hs h)
  · obtain ⟨p, rfl⟩ : ∃ p : Nat, a = p := ⟨a.toNat, by omega⟩
    have hp : p + 1 < s.size := by omega
    cases hb : begM s p with
    | true =>
      rw [mk_yes hb]
      exact read_yes w s p b hs hp hb
    | false =>
      rw [mk_no hb]
      refine read_no w s p b (fun W => ?_)
      have := begins_at W s p hs hp
      rw [hb] at this
      exact this

end Go.Proofs.Ythdlmglnieomeaa
