/-
  The document's only; its Read where no tag begins.
-/
import Derived.Test.YtgebdaanglmnnaaDoorRead
import Derived.Test.YtgebdaanglmnnaaDoorRefAttr
namespace Go.Proofs.YtgebdaanglmnnaaDoor
open Go.RowKit Utf
set_option linter.unusedVariables false

theorem At.cells5 {w : World} {g : Nat} {v0 v1 v2 v3 v4 : Value} (h : At w g #[v0, v1, v2, v3, v4] 37) : w.cell? ⟨g, 0, none⟩ = some v0 ∧ w.cell? ⟨g, 1, none⟩ = some v1 ∧ w.cell? ⟨g, 2, none⟩ = some v2 ∧ w.cell? ⟨g, 3, none⟩ = some v3 ∧ w.cell? ⟨g, 4, none⟩ = some v4 :=
  ⟨h.cell 0, h.cell 1, h.cell 2, h.cell 3, h.cell 4⟩

set_option maxHeartbeats 1000000 in
set_option maxRecDepth 100000 in
theorem only_start (w : World) (x y : ByteArray) (ao : Option Addr) (n c : Nat) (b : Bool) : Calls Tryd.prog 42 #[tv 2 x ao n c b y] w fun e w' => e = .returned (tv 2 x ao n c b y) ∧ Kp [] w w' := by
  unfold tv
  have kz : Kp [] w ((w.alloc (.cells #[.int .i64 2, .string x, .slice ao n c, .bool b, .string y] 37)).alloc (.cells #[.int .i64 2, .string x, .slice ao n c, .bool b, .string y] 37)) := ((Kp.refl _ _).alloc _).alloc _
  have A2 : At ((w.alloc (.cells #[.int .i64 2, .string x, .slice ao n c, .bool b, .string y] 37)).alloc (.cells #[.int .i64 2, .string x, .slice ao n c, .bool b, .string y] 37)) (w.heap.size + 1) #[.int .i64 2, .string x, .slice ao n c, .bool b, .string y] 37 := heap_new' _ _ _ (by simp)
  obtain ⟨d0, d1, d2, d3, d4⟩ := A2.cells5
  clear A2
  go_enter Tryd.func42, Tryd.ntmps42
  go_wp2
  refine bodyPost_ret (v := .agg #[.int .i64 2, .string x, .slice ao n c, .bool b, .string y]) (by simp [results, go_sem]) rfl ⟨rfl, kz⟩

set_option maxHeartbeats 1000000 in
set_option maxRecDepth 100000 in
theorem only_end (w : World) (x y : ByteArray) (ao : Option Addr) (n c : Nat) (b : Bool) : Calls Tryd.prog 42 #[tv 3 x ao n c b y] w fun e w' => e = .returned (tv 3 x none 0 0 false ⟨#[]⟩) ∧ Kp [] w w' := by
  unfold tv
  have kz : Kp [] w ((w.alloc (.cells #[.int .i64 3, .string x, .slice ao n c, .bool b, .string y] 37)).alloc (.cells #[.int .i64 3, .string x, .slice none 0 0, .bool false, .string ⟨#[]⟩] 37)) := ((Kp.refl _ _).alloc _).alloc _
  have A2 : At ((w.alloc (.cells #[.int .i64 3, .string x, .slice ao n c, .bool b, .string y] 37)).alloc (.cells #[.int .i64 3, .string x, .slice none 0 0, .bool false, .string ⟨#[]⟩] 37)) (w.heap.size + 1) #[.int .i64 3, .string x, .slice none 0 0, .bool false, .string ⟨#[]⟩] 37 := heap_new' _ _ _ (by simp)
  obtain ⟨d0, d1, d2, d3, d4⟩ := A2.cells5
  clear A2
  go_enter Tryd.func42, Tryd.ntmps42
  go_wp2
  refine bodyPost_ret (v := .agg #[.int .i64 3, .string x, .slice none 0 0, .bool false, .string ⟨#[]⟩]) (by simp [results, go_sem]) rfl ⟨rfl, kz⟩

/-- The two blocks, as they are laid. -/
theorem two_new (w : World) : Bx w ((w.alloc (.cells ZT 37)).alloc (.cells #[.int .i64 2, .string ⟨#[]⟩, .slice none 0 0, .bool false, .string ⟨#[]⟩] 37)) w.heap.size (w.heap.size + 1) (.int .i64 2) (.string ⟨#[]⟩) (.slice none 0 0) (.bool false) (.string ⟨#[]⟩) := by
  have h := Bx.new ((Kp.refl [] w).alloc (.cells ZT 37)) (At.new w ZT 37) (Nat.le_refl _) (.int .i64 2) (.string ⟨#[]⟩) (.slice none 0 0) (.bool false) (.string ⟨#[]⟩)
  rw [show (w.alloc (.cells ZT 37)).heap.size = w.heap.size + 1 by simp] at h
  exact h

theorem lt_sl {s : ByteArray} {p : Nat} (h1 : p < s.size) (h2 : bt s p = 60) : st s p ⟨#[60, 47]⟩ = st s (p + 1) SL := by
  rw [Bool.eq_iff_iff]
  constructor
  · intro h
    have hl : p + 2 ≤ s.size := st_le h
    refine st_true (by show p + 1 + 1 ≤ s.size; omega) fun j hj => ?_
    have hj1 : j < 1 := hj
    obtain rfl : j = 0 := by omega
    exact st_at h 1 (by decide)
  · intro h
    have hl : p + 1 + 1 ≤ s.size := st_le h
    refine st_true (by show p + 2 ≤ s.size; omega) fun j hj => ?_
    have hj1 : j < 2 := hj
    rcases (show j = 0 ∨ j = 1 by omega) with rfl | rfl
    · exact h2
    · exact st_at h 0 (by decide)

theorem lt_no {s : ByteArray} {p : Nat} (h2 : ¬ bt s p = 60) : st s p ⟨#[60, 47]⟩ = false := by
  cases h : st s p ⟨#[60, 47]⟩ with
  | false => rfl
  | true => exact absurd (st_at h 0 (by decide)) h2

set_option maxHeartbeats 4000000 in
set_option maxRecDepth 100000 in
/-- No sign there. -/
theorem ref_tread_no (w : World) (s : ByteArray) (a : Int) (hs : s.size ≤ 380) (h : begF s a = (0, 0)) : Calls Tryd.prog 19 #[.string s, .int .i64 a] w fun e w' => ∃ ao n c, e = .returned (.tuple #[tv 0 ⟨#[]⟩ ao n c false ⟨#[]⟩, .int .i64 a, .bool false]) ∧ Mp w w' ao n c [] := by
  unfold tv
  have HS := fun W => ref_starts_any W s a ⟨#[60, 47]⟩ (by omega) (by decide)
  by_cases h1 : a < 0
  · clear h
    generalize st s (pl s.size a) ⟨#[60, 47]⟩ = b at HS
    cases b with
    | false =>
      go_enter Tryd.func19, Tryd.ntmps19
      go_wp2_with fail
      refine (HS _).mono ?_
      rintro e w1 ⟨rfl, rfl⟩
      clear HS
      have B0 := two_new w
      generalize (w.alloc (.cells ZT 37)).alloc (.cells #[.int .i64 2, .string ⟨#[]⟩, .slice none 0 0, .bool false, .string ⟨#[]⟩] 37) = W at B0 ⊢
      have B := B0
      clear B0
      obtain ⟨_, _, ⟨c0, c1, c2, c3, c4⟩, f0⟩ := B.facts
      have D : Hid _ := laid5 B.kp B.r B.n0 (.int .i64 0) (.string ⟨#[]⟩) (.slice none 0 0) (.bool false) (.string ⟨#[]⟩)
      clear B
      go_wp2
      obtain ⟨d0, d1, d2, d3, d4, kz⟩ := D.out
      unfold put5 at d0 d1 d2 d3 d4 kz
      refine bodyPost_ret (v := .tuple #[.agg #[.int .i64 0, .string ⟨#[]⟩, .slice none 0 0, .bool false, .string ⟨#[]⟩], .int .i64 a, .bool false]) (by simp [results, go_sem, d0, d1, d2, d3, d4]) rfl ⟨_, _, _, rfl, Mp.none kz⟩
    | true =>
      go_enter Tryd.func19, Tryd.ntmps19
      go_wp2_with fail
      refine (HS _).mono ?_
      rintro e w1 ⟨rfl, rfl⟩
      clear HS
      have B0 := two_new w
      generalize (w.alloc (.cells ZT 37)).alloc (.cells #[.int .i64 2, .string ⟨#[]⟩, .slice none 0 0, .bool false, .string ⟨#[]⟩] 37) = W at B0 ⊢
      have B := B0.set 0 (.int .i64 3) (.int .i64 3) (.string ⟨#[]⟩) (.slice none 0 0) (.bool false) (.string ⟨#[]⟩) rfl
      obtain ⟨⟨y0, _⟩, yf, _, _⟩ := B0.facts
      clear B0
      obtain ⟨_, _, ⟨c0, c1, c2, c3, c4⟩, f0⟩ := B.facts
      have D : Hid _ := laid5 B.kp B.r B.n0 (.int .i64 0) (.string ⟨#[]⟩) (.slice none 0 0) (.bool false) (.string ⟨#[]⟩)
      clear B
      go_wp2
      obtain ⟨d0, d1, d2, d3, d4, kz⟩ := D.out
      unfold put5 at d0 d1 d2 d3 d4 kz
      refine bodyPost_ret (v := .tuple #[.agg #[.int .i64 0, .string ⟨#[]⟩, .slice none 0 0, .bool false, .string ⟨#[]⟩], .int .i64 a, .bool false]) (by simp [results, go_sem, d0, d1, d2, d3, d4]) rfl ⟨_, _, _, rfl, Mp.none kz⟩
  by_cases h2 : ¬ a < s.size
  · clear h
    have hz : st s (pl s.size a) ⟨#[60, 47]⟩ = false := by
      refine st_long ?_
      have : pl s.size a = s.size := by
        unfold pl
        split
        · omega
        split
        · rfl
        · omega
      rw [this]
      show ¬ s.size + 2 ≤ s.size
      omega
    rw [hz] at HS
    clear hz
    go_enter Tryd.func19, Tryd.ntmps19
    go_wp2_with fail
    refine (HS _).mono ?_
    rintro e w1 ⟨rfl, rfl⟩
    clear HS
    have B0 := two_new w
    generalize (w.alloc (.cells ZT 37)).alloc (.cells #[.int .i64 2, .string ⟨#[]⟩, .slice none 0 0, .bool false, .string ⟨#[]⟩] 37) = W at B0 ⊢
    have B := B0
    clear B0
    obtain ⟨_, _, ⟨c0, c1, c2, c3, c4⟩, f0⟩ := B.facts
    have D : Hid _ := laid5 B.kp B.r B.n0 (.int .i64 0) (.string ⟨#[]⟩) (.slice none 0 0) (.bool false) (.string ⟨#[]⟩)
    clear B
    go_wp2
    obtain ⟨d0, d1, d2, d3, d4, kz⟩ := D.out
    unfold put5 at d0 d1 d2 d3 d4 kz
    refine bodyPost_ret (v := .tuple #[.agg #[.int .i64 0, .string ⟨#[]⟩, .slice none 0 0, .bool false, .string ⟨#[]⟩], .int .i64 a, .bool false]) (by simp [results, go_sem, d0, d1, d2, d3, d4]) rfl ⟨_, _, _, rfl, Mp.none kz⟩
  obtain ⟨p, rfl⟩ : ∃ p : Nat, a = p := ⟨a.toNat, by omega⟩
  have hp : p < s.size := by omega
  rw [pl_of (by omega)] at HS
  have i1 := index_at s (p : Int) p rfl hp
  obtain ⟨r1, r2⟩ := bt_range s p
  by_cases h3 : ¬ bt s p = 60
  · rw [lt_no h3] at HS
    generalize bt s p = x at i1 h3 r1 r2
    have b1 : (x != 60) = true := by simpa using h3
    clear h h3 h1 h2
    go_enter Tryd.func19, Tryd.ntmps19
    go_wp2_with fail
    refine (HS _).mono ?_
    rintro e w1 ⟨rfl, rfl⟩
    clear HS
    have B0 := two_new w
    generalize (w.alloc (.cells ZT 37)).alloc (.cells #[.int .i64 2, .string ⟨#[]⟩, .slice none 0 0, .bool false, .string ⟨#[]⟩] 37) = W at B0 ⊢
    have B := B0
    clear B0
    obtain ⟨_, _, ⟨c0, c1, c2, c3, c4⟩, f0⟩ := B.facts
    have D : Hid _ := laid5 B.kp B.r B.n0 (.int .i64 0) (.string ⟨#[]⟩) (.slice none 0 0) (.bool false) (.string ⟨#[]⟩)
    clear B
    go_wp2
    obtain ⟨d0, d1, d2, d3, d4, kz⟩ := D.out
    unfold put5 at d0 d1 d2 d3 d4 kz
    refine bodyPost_ret (v := .tuple #[.agg #[.int .i64 0, .string ⟨#[]⟩, .slice none 0 0, .bool false, .string ⟨#[]⟩], .int .i64 (p : Int), .bool false]) (by simp [results, go_sem, d0, d1, d2, d3, d4]) rfl ⟨_, _, _, rfl, Mp.none kz⟩
  have h3 : bt s p = 60 := by simpa using h3
  rw [h3] at i1
  rw [lt_sl hp h3] at HS
  cases h4 : st s (p + 1) SL with
  | true =>
    rw [h4] at HS
    have l1 := sl_is h4
    rw [beg_end hp h3 h4] at h
    have h5 : isLet (bt s (p + 2)) = false := by
      cases hx : isLet (bt s (p + 2)) with
      | false => rfl
      | true => rw [hx, if_pos rfl] at h; simp at h
    by_cases h6 : p + 2 < s.size
    · have i2 := index_at s ((p : Int) + 2) (p + 2) (by omega) h6
      obtain ⟨q1, q2⟩ := bt_range s (p + 2)
      have HL := fun W => ref_letter_any W (bt s (p + 2))
      rw [h5] at HL
      generalize bt s (p + 2) = x at i2 q1 q2 HL
      clear h h1 h2 h3 h4 h5 r1 r2
      go_enter Tryd.func19, Tryd.ntmps19
      go_wp2_with fail
      refine (HS _).mono ?_
      rintro e w1 ⟨rfl, rfl⟩
      clear HS
      have B0 := two_new w
      generalize (w.alloc (.cells ZT 37)).alloc (.cells #[.int .i64 2, .string ⟨#[]⟩, .slice none 0 0, .bool false, .string ⟨#[]⟩] 37) = W at B0 ⊢
      have B := B0.set 0 (.int .i64 3) (.int .i64 3) (.string ⟨#[]⟩) (.slice none 0 0) (.bool false) (.string ⟨#[]⟩) rfl
      obtain ⟨⟨y0, _⟩, yf, _, _⟩ := B0.facts
      clear B0
      obtain ⟨_, _, ⟨c0, c1, c2, c3, c4⟩, f0⟩ := B.facts
      go_wp2_with fail
      refine (HL _).mono ?_
      rintro e w2 ⟨rfl, rfl⟩
      clear HL
      clear c0 c1 c2 c3 c4 f0
      obtain ⟨_, _, ⟨c0, c1, c2, c3, c4⟩, f0⟩ := B.facts
      have D : Hid _ := laid5 B.kp B.r B.n0 (.int .i64 0) (.string ⟨#[]⟩) (.slice none 0 0) (.bool false) (.string ⟨#[]⟩)
      clear B
      go_wp2
      obtain ⟨d0, d1, d2, d3, d4, kz⟩ := D.out
      unfold put5 at d0 d1 d2 d3 d4 kz
      refine bodyPost_ret (v := .tuple #[.agg #[.int .i64 0, .string ⟨#[]⟩, .slice none 0 0, .bool false, .string ⟨#[]⟩], .int .i64 (p : Int), .bool false]) (by simp [results, go_sem, d0, d1, d2, d3, d4]) rfl ⟨_, _, _, rfl, Mp.none kz⟩
    · clear h h1 h2 h3 h4 h5 r1 r2
      go_enter Tryd.func19, Tryd.ntmps19
      go_wp2_with fail
      refine (HS _).mono ?_
      rintro e w1 ⟨rfl, rfl⟩
      clear HS
      have B0 := two_new w
      generalize (w.alloc (.cells ZT 37)).alloc (.cells #[.int .i64 2, .string ⟨#[]⟩, .slice none 0 0, .bool false, .string ⟨#[]⟩] 37) = W at B0 ⊢
      have B := B0.set 0 (.int .i64 3) (.int .i64 3) (.string ⟨#[]⟩) (.slice none 0 0) (.bool false) (.string ⟨#[]⟩) rfl
      obtain ⟨⟨y0, _⟩, yf, _, _⟩ := B0.facts
      clear B0
      obtain ⟨_, _, ⟨c0, c1, c2, c3, c4⟩, f0⟩ := B.facts
      have D : Hid _ := laid5 B.kp B.r B.n0 (.int .i64 0) (.string ⟨#[]⟩) (.slice none 0 0) (.bool false) (.string ⟨#[]⟩)
      clear B
      go_wp2
      obtain ⟨d0, d1, d2, d3, d4, kz⟩ := D.out
      unfold put5 at d0 d1 d2 d3 d4 kz
      refine bodyPost_ret (v := .tuple #[.agg #[.int .i64 0, .string ⟨#[]⟩, .slice none 0 0, .bool false, .string ⟨#[]⟩], .int .i64 (p : Int), .bool false]) (by simp [results, go_sem, d0, d1, d2, d3, d4]) rfl ⟨_, _, _, rfl, Mp.none kz⟩
  | false =>
    rw [h4] at HS
    rw [beg_start hp h3 h4] at h
    have h5 : isLet (bt s (p + 1)) = false := by
      cases hx : isLet (bt s (p + 1)) with
      | false => rfl
      | true => rw [hx, if_pos rfl] at h; simp at h
    by_cases h6 : p + 1 < s.size
    · have i2 := index_at s ((p : Int) + 1) (p + 1) (by omega) h6
      obtain ⟨q1, q2⟩ := bt_range s (p + 1)
      have HL := fun W => ref_letter_any W (bt s (p + 1))
      rw [h5] at HL
      generalize bt s (p + 1) = x at i2 q1 q2 HL
      clear h h1 h2 h3 h4 h5 r1 r2
      go_enter Tryd.func19, Tryd.ntmps19
      go_wp2_with fail
      refine (HS _).mono ?_
      rintro e w1 ⟨rfl, rfl⟩
      clear HS
      have B0 := two_new w
      generalize (w.alloc (.cells ZT 37)).alloc (.cells #[.int .i64 2, .string ⟨#[]⟩, .slice none 0 0, .bool false, .string ⟨#[]⟩] 37) = W at B0 ⊢
      have B := B0
      clear B0
      go_wp2_with fail
      refine (HL _).mono ?_
      rintro e w2 ⟨rfl, rfl⟩
      clear HL
      obtain ⟨_, _, ⟨c0, c1, c2, c3, c4⟩, f0⟩ := B.facts
      have D : Hid _ := laid5 B.kp B.r B.n0 (.int .i64 0) (.string ⟨#[]⟩) (.slice none 0 0) (.bool false) (.string ⟨#[]⟩)
      clear B
      go_wp2
      obtain ⟨d0, d1, d2, d3, d4, kz⟩ := D.out
      unfold put5 at d0 d1 d2 d3 d4 kz
      refine bodyPost_ret (v := .tuple #[.agg #[.int .i64 0, .string ⟨#[]⟩, .slice none 0 0, .bool false, .string ⟨#[]⟩], .int .i64 (p : Int), .bool false]) (by simp [results, go_sem, d0, d1, d2, d3, d4]) rfl ⟨_, _, _, rfl, Mp.none kz⟩
    · clear h h1 h2 h3 h4 h5 r1 r2
      go_enter Tryd.func19, Tryd.ntmps19
      go_wp2_with fail
      refine (HS _).mono ?_
      rintro e w1 ⟨rfl, rfl⟩
      clear HS
      have B0 := two_new w
      generalize (w.alloc (.cells ZT 37)).alloc (.cells #[.int .i64 2, .string ⟨#[]⟩, .slice none 0 0, .bool false, .string ⟨#[]⟩] 37) = W at B0 ⊢
      have B := B0
      clear B0
      obtain ⟨_, _, ⟨c0, c1, c2, c3, c4⟩, f0⟩ := B.facts
      have D : Hid _ := laid5 B.kp B.r B.n0 (.int .i64 0) (.string ⟨#[]⟩) (.slice none 0 0) (.bool false) (.string ⟨#[]⟩)
      clear B
      go_wp2
      obtain ⟨d0, d1, d2, d3, d4, kz⟩ := D.out
      unfold put5 at d0 d1 d2 d3 d4 kz
      refine bodyPost_ret (v := .tuple #[.agg #[.int .i64 0, .string ⟨#[]⟩, .slice none 0 0, .bool false, .string ⟨#[]⟩], .int .i64 (p : Int), .bool false]) (by simp [results, go_sem, d0, d1, d2, d3, d4]) rfl ⟨_, _, _, rfl, Mp.none kz⟩

end Go.Proofs.YtgebdaanglmnnaaDoor
