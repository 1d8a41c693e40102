/-
  Joined: RefTag RefTagS RefTagE TagRef.
-/
import Derived.Test.YtcfaejbbjmjgpaaGreatDoorRead
import Derived.Test.YtcfaejbbjmjgpaaGreatDoorRefAttr
import Derived.Test.YtcfaejbbjmjgpaaGreatDoorGroundH

/-
  The document's only; its Read where no tag begins.
-/
namespace Go.Proofs.YtcfaejbbjmjgpaaGreatDoor
open Go.RowKit Utf
set_option linter.unusedVariables false

set_option maxHeartbeats 1000000 in
set_option maxRecDepth 100000 in
theorem only_start (w : World) (x y : ByteArray) (ao : Option Addr) (n c : Nat) (b : Bool) : Calls Tryz.prog 66 #[tv 2 x ao n c b y] w fun e w' => e = .returned (tv 2 x ao n c b y) ∧ Kp [] w w' := by
  unfold tv
  have kz : Kp [] w ((w.alloc (.cells #[.int .i64 2, .string x, .slice ao n c, .bool b, .string y] 44)).alloc (.cells #[.int .i64 2, .string x, .slice ao n c, .bool b, .string y] 44)) := ((Kp.refl _ _).alloc _).alloc _
  have A2 : At ((w.alloc (.cells #[.int .i64 2, .string x, .slice ao n c, .bool b, .string y] 44)).alloc (.cells #[.int .i64 2, .string x, .slice ao n c, .bool b, .string y] 44)) (w.heap.size + 1) #[.int .i64 2, .string x, .slice ao n c, .bool b, .string y] 44 := heap_new' _ _ _ (by simp)
  obtain ⟨d0, d1, d2, d3, d4⟩ := A2.cells5
  clear A2
  go_enter Tryz.func66, Tryz.ntmps66
  go_wp2
  refine bodyPost_ret (v := .agg #[.int .i64 2, .string x, .slice ao n c, .bool b, .string y]) (by simp [results, go_sem]) rfl ⟨rfl, kz⟩

set_option maxHeartbeats 1000000 in
set_option maxRecDepth 100000 in
theorem only_end (w : World) (x y : ByteArray) (ao : Option Addr) (n c : Nat) (b : Bool) : Calls Tryz.prog 66 #[tv 3 x ao n c b y] w fun e w' => e = .returned (tv 3 x none 0 0 false ⟨#[]⟩) ∧ Kp [] w w' := by
  unfold tv
  have kz : Kp [] w ((w.alloc (.cells #[.int .i64 3, .string x, .slice ao n c, .bool b, .string y] 44)).alloc (.cells #[.int .i64 3, .string x, .slice none 0 0, .bool false, .string ⟨#[]⟩] 44)) := ((Kp.refl _ _).alloc _).alloc _
  have A2 : At ((w.alloc (.cells #[.int .i64 3, .string x, .slice ao n c, .bool b, .string y] 44)).alloc (.cells #[.int .i64 3, .string x, .slice none 0 0, .bool false, .string ⟨#[]⟩] 44)) (w.heap.size + 1) #[.int .i64 3, .string x, .slice none 0 0, .bool false, .string ⟨#[]⟩] 44 := heap_new' _ _ _ (by simp)
  obtain ⟨d0, d1, d2, d3, d4⟩ := A2.cells5
  clear A2
  go_enter Tryz.func66, Tryz.ntmps66
  go_wp2
  refine bodyPost_ret (v := .agg #[.int .i64 3, .string x, .slice none 0 0, .bool false, .string ⟨#[]⟩]) (by simp [results, go_sem]) rfl ⟨rfl, kz⟩

/-- The two blocks, as they are laid. -/
theorem two_new (w : World) : Bx w ((w.alloc (.cells ZT 44)).alloc (.cells #[.int .i64 2, .string ⟨#[]⟩, .slice none 0 0, .bool false, .string ⟨#[]⟩] 44)) w.heap.size (w.heap.size + 1) (.int .i64 2) (.string ⟨#[]⟩) (.slice none 0 0) (.bool false) (.string ⟨#[]⟩) := by
  have h := Bx.new ((Kp.refl [] w).alloc (.cells ZT 44)) (At.new w ZT 44) (Nat.le_refl _) (.int .i64 2) (.string ⟨#[]⟩) (.slice none 0 0) (.bool false) (.string ⟨#[]⟩)
  rw [show (w.alloc (.cells ZT 44)).heap.size = w.heap.size + 1 by simp] at h
  exact h

theorem lt_sl {s : ByteArray} {p : Nat} (h1 : p < s.size) (h2 : bt s p = 60) : st s p ⟨#[60, 47]⟩ = st s (p + 1) SL := by
  rw [Bool.eq_iff_iff]
  constructor
  · intro h
    have hl : p + 2 ≤ s.size := st_le h
    refine st_true (by show p + 1 + 1 ≤ s.size; omega) fun j hj => ?_
    have hj1 : j < 1 := hj
    obtain rfl : j = 0 := by omega
    exact st_at h 1 (by decide)
  · intro h
    have hl : p + 1 + 1 ≤ s.size := st_le h
    refine st_true (by show p + 2 ≤ s.size; omega) fun j hj => ?_
    have hj1 : j < 2 := hj
    rcases (show j = 0 ∨ j = 1 by omega) with rfl | rfl
    · exact h2
    · exact st_at h 0 (by decide)

theorem lt_no {s : ByteArray} {p : Nat} (h2 : ¬ bt s p = 60) : st s p ⟨#[60, 47]⟩ = false := by
  cases h : st s p ⟨#[60, 47]⟩ with
  | false => rfl
  | true => exact absurd (st_at h 0 (by decide)) h2

set_option maxHeartbeats 4000000 in
set_option maxRecDepth 100000 in
/-- No sign there. -/
theorem ref_tread_no (w : World) (s : ByteArray) (a : Int) (hs : s.size ≤ 4000) (h : begF s a = (0, 0)) : Calls Tryz.prog 44 #[.string s, .int .i64 a] w fun e w' => ∃ ao n c, e = .returned (.tuple #[tv 0 ⟨#[]⟩ ao n c false ⟨#[]⟩, .int .i64 a, .bool false]) ∧ Mp w w' ao n c [] := by
  unfold tv
  have HS := fun W => ref_starts_any W s a ⟨#[60, 47]⟩ (by omega) (by decide)
  by_cases h1 : a < 0
  · clear h
    generalize st s (pl s.size a) ⟨#[60, 47]⟩ = b at HS
    cases b with
    | false =>
      go_enter Tryz.func44, Tryz.ntmps44
      go_wp2_with fail
      refine (HS _).mono ?_
      rintro e w1 ⟨rfl, rfl⟩
      clear HS
      have B0 := two_new w
      generalize (w.alloc (.cells ZT 44)).alloc (.cells #[.int .i64 2, .string ⟨#[]⟩, .slice none 0 0, .bool false, .string ⟨#[]⟩] 44) = W at B0 ⊢
      have B := B0
      clear B0
      obtain ⟨_, _, ⟨c0, c1, c2, c3, c4⟩, f0⟩ := B.facts
      have D : Hid _ := laid5 B.kp B.r B.n0 (.int .i64 0) (.string ⟨#[]⟩) (.slice none 0 0) (.bool false) (.string ⟨#[]⟩)
      clear B
      go_wp2
      obtain ⟨d0, d1, d2, d3, d4, kz⟩ := D.out
      unfold put5 at d0 d1 d2 d3 d4 kz
      refine bodyPost_ret (v := .tuple #[.agg #[.int .i64 0, .string ⟨#[]⟩, .slice none 0 0, .bool false, .string ⟨#[]⟩], .int .i64 a, .bool false]) (by simp [results, go_sem, d0, d1, d2, d3, d4]) rfl ⟨_, _, _, rfl, Mp.none kz⟩
    | true =>
      go_enter Tryz.func44, Tryz.ntmps44
      go_wp2_with fail
      refine (HS _).mono ?_
      rintro e w1 ⟨rfl, rfl⟩
      clear HS
      have B0 := two_new w
      generalize (w.alloc (.cells ZT 44)).alloc (.cells #[.int .i64 2, .string ⟨#[]⟩, .slice none 0 0, .bool false, .string ⟨#[]⟩] 44) = W at B0 ⊢
      have B := B0.set 0 (.int .i64 3) (.int .i64 3) (.string ⟨#[]⟩) (.slice none 0 0) (.bool false) (.string ⟨#[]⟩) rfl
      obtain ⟨⟨y0, _⟩, yf, _, _⟩ := B0.facts
      clear B0
      obtain ⟨_, _, ⟨c0, c1, c2, c3, c4⟩, f0⟩ := B.facts
      have D : Hid _ := laid5 B.kp B.r B.n0 (.int .i64 0) (.string ⟨#[]⟩) (.slice none 0 0) (.bool false) (.string ⟨#[]⟩)
      clear B
      go_wp2
      obtain ⟨d0, d1, d2, d3, d4, kz⟩ := D.out
      unfold put5 at d0 d1 d2 d3 d4 kz
      refine bodyPost_ret (v := .tuple #[.agg #[.int .i64 0, .string ⟨#[]⟩, .slice none 0 0, .bool false, .string ⟨#[]⟩], .int .i64 a, .bool false]) (by simp [results, go_sem, d0, d1, d2, d3, d4]) rfl ⟨_, _, _, rfl, Mp.none kz⟩
  by_cases h2 : ¬ a < s.size
  · clear h
    have hz : st s (pl s.size a) ⟨#[60, 47]⟩ = false := by
      refine st_long ?_
      have : pl s.size a = s.size := by
        unfold pl
        split
        · omega
        split
        · rfl
        · omega
      rw [this]
      show ¬ s.size + 2 ≤ s.size
      omega
    rw [hz] at HS
    clear hz
    go_enter Tryz.func44, Tryz.ntmps44
    go_wp2_with fail
    refine (HS _).mono ?_
    rintro e w1 ⟨rfl, rfl⟩
    clear HS
    have B0 := two_new w
    generalize (w.alloc (.cells ZT 44)).alloc (.cells #[.int .i64 2, .string ⟨#[]⟩, .slice none 0 0, .bool false, .string ⟨#[]⟩] 44) = W at B0 ⊢
    have B := B0
    clear B0
    obtain ⟨_, _, ⟨c0, c1, c2, c3, c4⟩, f0⟩ := B.facts
    have D : Hid _ := laid5 B.kp B.r B.n0 (.int .i64 0) (.string ⟨#[]⟩) (.slice none 0 0) (.bool false) (.string ⟨#[]⟩)
    clear B
    go_wp2
    obtain ⟨d0, d1, d2, d3, d4, kz⟩ := D.out
    unfold put5 at d0 d1 d2 d3 d4 kz
    refine bodyPost_ret (v := .tuple #[.agg #[.int .i64 0, .string ⟨#[]⟩, .slice none 0 0, .bool false, .string ⟨#[]⟩], .int .i64 a, .bool false]) (by simp [results, go_sem, d0, d1, d2, d3, d4]) rfl ⟨_, _, _, rfl, Mp.none kz⟩
  obtain ⟨p, rfl⟩ : ∃ p : Nat, a = p := ⟨a.toNat, by omega⟩
  have hp : p < s.size := by omega
  rw [pl_of (by omega)] at HS
  have i1 := index_at s (p : Int) p rfl hp
  obtain ⟨r1, r2⟩ := bt_range s p
  by_cases h3 : ¬ bt s p = 60
  · rw [lt_no h3] at HS
    generalize bt s p = x at i1 h3 r1 r2
    have b1 : (x != 60) = true := by simpa using h3
    clear h h3 h1 h2
    go_enter Tryz.func44, Tryz.ntmps44
    go_wp2_with fail
    refine (HS _).mono ?_
    rintro e w1 ⟨rfl, rfl⟩
    clear HS
    have B0 := two_new w
    generalize (w.alloc (.cells ZT 44)).alloc (.cells #[.int .i64 2, .string ⟨#[]⟩, .slice none 0 0, .bool false, .string ⟨#[]⟩] 44) = W at B0 ⊢
    have B := B0
    clear B0
    obtain ⟨_, _, ⟨c0, c1, c2, c3, c4⟩, f0⟩ := B.facts
    have D : Hid _ := laid5 B.kp B.r B.n0 (.int .i64 0) (.string ⟨#[]⟩) (.slice none 0 0) (.bool false) (.string ⟨#[]⟩)
    clear B
    go_wp2
    obtain ⟨d0, d1, d2, d3, d4, kz⟩ := D.out
    unfold put5 at d0 d1 d2 d3 d4 kz
    refine bodyPost_ret (v := .tuple #[.agg #[.int .i64 0, .string ⟨#[]⟩, .slice none 0 0, .bool false, .string ⟨#[]⟩], .int .i64 (p : Int), .bool false]) (by simp [results, go_sem, d0, d1, d2, d3, d4]) rfl ⟨_, _, _, rfl, Mp.none kz⟩
  have h3 : bt s p = 60 := by simpa using h3
  rw [h3] at i1
  rw [lt_sl hp h3] at HS
  cases h4 : st s (p + 1) SL with
  | true =>
    rw [h4] at HS
    have l1 := sl_is h4
    rw [beg_end hp h3 h4] at h
    have h5 : isLet (bt s (p + 2)) = false := by
      cases hx : isLet (bt s (p + 2)) with
      | false => rfl
      | true => rw [hx, if_pos rfl] at h; simp at h
    by_cases h6 : p + 2 < s.size
    · have i2 := index_at s ((p : Int) + 2) (p + 2) (by omega) h6
      obtain ⟨q1, q2⟩ := bt_range s (p + 2)
      have HL := fun W => ref_letter_any W (bt s (p + 2))
      rw [h5] at HL
      generalize bt s (p + 2) = x at i2 q1 q2 HL
      clear h h1 h2 h3 h4 h5 r1 r2
      go_enter Tryz.func44, Tryz.ntmps44
      go_wp2_with fail
      refine (HS _).mono ?_
      rintro e w1 ⟨rfl, rfl⟩
      clear HS
      have B0 := two_new w
      generalize (w.alloc (.cells ZT 44)).alloc (.cells #[.int .i64 2, .string ⟨#[]⟩, .slice none 0 0, .bool false, .string ⟨#[]⟩] 44) = W at B0 ⊢
      have B := B0.set 0 (.int .i64 3) (.int .i64 3) (.string ⟨#[]⟩) (.slice none 0 0) (.bool false) (.string ⟨#[]⟩) rfl
      obtain ⟨⟨y0, _⟩, yf, _, _⟩ := B0.facts
      clear B0
      obtain ⟨_, _, ⟨c0, c1, c2, c3, c4⟩, f0⟩ := B.facts
      go_wp2_with fail
      refine (HL _).mono ?_
      rintro e w2 ⟨rfl, rfl⟩
      clear HL
      clear c0 c1 c2 c3 c4 f0
      obtain ⟨_, _, ⟨c0, c1, c2, c3, c4⟩, f0⟩ := B.facts
      have D : Hid _ := laid5 B.kp B.r B.n0 (.int .i64 0) (.string ⟨#[]⟩) (.slice none 0 0) (.bool false) (.string ⟨#[]⟩)
      clear B
      go_wp2
      obtain ⟨d0, d1, d2, d3, d4, kz⟩ := D.out
      unfold put5 at d0 d1 d2 d3 d4 kz
      refine bodyPost_ret (v := .tuple #[.agg #[.int .i64 0, .string ⟨#[]⟩, .slice none 0 0, .bool false, .string ⟨#[]⟩], .int .i64 (p : Int), .bool false]) (by simp [results, go_sem, d0, d1, d2, d3, d4]) rfl ⟨_, _, _, rfl, Mp.none kz⟩
    · clear h h1 h2 h3 h4 h5 r1 r2
      go_enter Tryz.func44, Tryz.ntmps44
      go_wp2_with fail
      refine (HS _).mono ?_
      rintro e w1 ⟨rfl, rfl⟩
      clear HS
      have B0 := two_new w
      generalize (w.alloc (.cells ZT 44)).alloc (.cells #[.int .i64 2, .string ⟨#[]⟩, .slice none 0 0, .bool false, .string ⟨#[]⟩] 44) = W at B0 ⊢
      have B := B0.set 0 (.int .i64 3) (.int .i64 3) (.string ⟨#[]⟩) (.slice none 0 0) (.bool false) (.string ⟨#[]⟩) rfl
      obtain ⟨⟨y0, _⟩, yf, _, _⟩ := B0.facts
      clear B0
      obtain ⟨_, _, ⟨c0, c1, c2, c3, c4⟩, f0⟩ := B.facts
      have D : Hid _ := laid5 B.kp B.r B.n0 (.int .i64 0) (.string ⟨#[]⟩) (.slice none 0 0) (.bool false) (.string ⟨#[]⟩)
      clear B
      go_wp2
      obtain ⟨d0, d1, d2, d3, d4, kz⟩ := D.out
      unfold put5 at d0 d1 d2 d3 d4 kz
      refine bodyPost_ret (v := .tuple #[.agg #[.int .i64 0, .string ⟨#[]⟩, .slice none 0 0, .bool false, .string ⟨#[]⟩], .int .i64 (p : Int), .bool false]) (by simp [results, go_sem, d0, d1, d2, d3, d4]) rfl ⟨_, _, _, rfl, Mp.none kz⟩
  | false =>
    rw [h4] at HS
    rw [beg_start hp h3 h4] at h
    have h5 : isLet (bt s (p + 1)) = false := by
      cases hx : isLet (bt s (p + 1)) with
      | false => rfl
      | true => rw [hx, if_pos rfl] at h; simp at h
    by_cases h6 : p + 1 < s.size
    · have i2 := index_at s ((p : Int) + 1) (p + 1) (by omega) h6
      obtain ⟨q1, q2⟩ := bt_range s (p + 1)
      have HL := fun W => ref_letter_any W (bt s (p + 1))
      rw [h5] at HL
      generalize bt s (p + 1) = x at i2 q1 q2 HL
      clear h h1 h2 h3 h4 h5 r1 r2
      go_enter Tryz.func44, Tryz.ntmps44
      go_wp2_with fail
      refine (HS _).mono ?_
      rintro e w1 ⟨rfl, rfl⟩
      clear HS
      have B0 := two_new w
      generalize (w.alloc (.cells ZT 44)).alloc (.cells #[.int .i64 2, .string ⟨#[]⟩, .slice none 0 0, .bool false, .string ⟨#[]⟩] 44) = W at B0 ⊢
      have B := B0
      clear B0
      go_wp2_with fail
      refine (HL _).mono ?_
      rintro e w2 ⟨rfl, rfl⟩
      clear HL
      obtain ⟨_, _, ⟨c0, c1, c2, c3, c4⟩, f0⟩ := B.facts
      have D : Hid _ := laid5 B.kp B.r B.n0 (.int .i64 0) (.string ⟨#[]⟩) (.slice none 0 0) (.bool false) (.string ⟨#[]⟩)
      clear B
      go_wp2
      obtain ⟨d0, d1, d2, d3, d4, kz⟩ := D.out
      unfold put5 at d0 d1 d2 d3 d4 kz
      refine bodyPost_ret (v := .tuple #[.agg #[.int .i64 0, .string ⟨#[]⟩, .slice none 0 0, .bool false, .string ⟨#[]⟩], .int .i64 (p : Int), .bool false]) (by simp [results, go_sem, d0, d1, d2, d3, d4]) rfl ⟨_, _, _, rfl, Mp.none kz⟩
    · clear h h1 h2 h3 h4 h5 r1 r2
      go_enter Tryz.func44, Tryz.ntmps44
      go_wp2_with fail
      refine (HS _).mono ?_
      rintro e w1 ⟨rfl, rfl⟩
      clear HS
      have B0 := two_new w
      generalize (w.alloc (.cells ZT 44)).alloc (.cells #[.int .i64 2, .string ⟨#[]⟩, .slice none 0 0, .bool false, .string ⟨#[]⟩] 44) = W at B0 ⊢
      have B := B0
      clear B0
      obtain ⟨_, _, ⟨c0, c1, c2, c3, c4⟩, f0⟩ := B.facts
      have D : Hid _ := laid5 B.kp B.r B.n0 (.int .i64 0) (.string ⟨#[]⟩) (.slice none 0 0) (.bool false) (.string ⟨#[]⟩)
      clear B
      go_wp2
      obtain ⟨d0, d1, d2, d3, d4, kz⟩ := D.out
      unfold put5 at d0 d1 d2 d3 d4 kz
      refine bodyPost_ret (v := .tuple #[.agg #[.int .i64 0, .string ⟨#[]⟩, .slice none 0 0, .bool false, .string ⟨#[]⟩], .int .i64 (p : Int), .bool false]) (by simp [results, go_sem, d0, d1, d2, d3, d4]) rfl ⟨_, _, _, rfl, Mp.none kz⟩

end Go.Proofs.YtcfaejbbjmjgpaaGreatDoor

/-
  The document's Read of a Start.
-/
namespace Go.Proofs.YtcfaejbbjmjgpaaGreatDoor
open Go.RowKit Utf
set_option linter.unusedVariables false

set_option maxHeartbeats 4000000 in
set_option maxRecDepth 100000 in
theorem ref_tread_start (w : World) (s : ByteArray) (p : Nat) (hs : s.size ≤ 4000) (hp : p < s.size) (h3 : bt s p = 60) (h4 : st s (p + 1) SL = false) (h5 : isLet (bt s (p + 1)) = true) : Calls Tryz.prog 44 #[.string s, .int .i64 (p : Int)] w fun e w' => ∃ ao n c, e = .returned (rdv (wholeF s 2 (p + 1)) ao n c) ∧ Mp w w' ao n c (wholeF s 2 (p + 1)).1.2.2.1 := by
  have HS := fun W => ref_starts_any W s (p : Int) ⟨#[60, 47]⟩ (by omega) (by decide)
  rw [pl_of (by omega), lt_sl hp h3, h4] at HS
  have i1 := index_at s (p : Int) p rfl hp
  rw [h3] at i1
  have l1 := let_lt h5
  have i2 := index_at s ((p : Int) + 1) (p + 1) (by omega) l1
  obtain ⟨q1, q2⟩ := bt_range s (p + 1)
  have HL := fun W => ref_letter_any W (bt s (p + 1))
  rw [h5] at HL
  generalize bt s (p + 1) = x at i2 q1 q2 HL
  have HN := fun W => ref_name_any W s ((p + 1 : Nat) : Int) (by omega)
  rw [pl_of (by omega)] at HN
  have hnm := name_is s (p := p + 1) (by omega)
  obtain ⟨V, hV⟩ : ∃ V, wholeF s 2 (p + 1) = V := ⟨_, rfl⟩
  rw [hV]
  unfold wholeF at hV
  generalize nameF s (p + 1) = t at HN hnm hV
  have l2 := hnm.lo
  have l3 := hnm.hi
  have HW := fun W => ref_lower_any W (s.extract (p + 1) t) (by have := cut_le s (p + 1) t; omega)
  generalize lower (s.extract (p + 1) t) = nm at HW hV
  obtain ⟨R, hR⟩ : ∃ R, inF s t [] = R := ⟨_, rfl⟩
  rw [hR] at hV
  have hV0 : Hid (R.2.2 = 0 → V = (zt, (s.size : Int), false)) := fun h => by rw [← hV, if_pos h]
  have hV1 : Hid (¬ R.2.2 = 0 → V = ((2, nm, uniq R.1, R.2.1, ⟨#[]⟩), (R.2.2 : Int), true)) := fun h => by rw [← hV, if_neg h, if_pos rfl]
  push_cast at HN
  clear hnm h3 h4 h5 hV
  go_enter Tryz.func44, Tryz.ntmps44
  go_wp2_with fail
  refine (HS _).mono ?_
  rintro e w1 ⟨rfl, rfl⟩
  clear HS
  have B0 := two_new w
  generalize (w.alloc (.cells ZT 44)).alloc (.cells #[.int .i64 2, .string ⟨#[]⟩, .slice none 0 0, .bool false, .string ⟨#[]⟩] 44) = W at B0 ⊢
  have B1 := B0
  clear B0
  go_wp2_with fail
  refine (HL _).mono ?_
  rintro e w2 ⟨rfl, rfl⟩
  clear HL
  go_wp2_with fail
  refine (HN _).mono ?_
  rintro e w2 ⟨rfl, rfl⟩
  clear HN
  go_wp2_with fail
  refine (HW _).mono ?_
  rintro e w2 ⟨rfl, k2⟩
  have B2 := B1.kept k2
  have B3 : Hid (Bx w (w2.setCell ⟨w.heap.size + 1, 1, none⟩ (.string nm)) w.heap.size (w.heap.size + 1) (.int .i64 2) (.string nm) (.slice none 0 0) (.bool false) (.string ⟨#[]⟩)) := B2.set 1 (.string nm) (.int .i64 2) (.string nm) (.slice none 0 0) (.bool false) (.string ⟨#[]⟩) rfl
  obtain ⟨⟨_, y1, _⟩, yf, _, _⟩ := B2.facts
  clear HW k2 B1 B2 i1 i2 q1 q2
  go_wp2
  clear y1 yf
  generalize w2.setCell ⟨w.heap.size + 1, 1, none⟩ (.string nm) = W5 at B3 ⊢
  go_loopw [9] (fun i wr => ∃ (p : Nat) (ao : Option Addr) (n c : Nat) (L : List Att), p ≤ s.size ∧ i = .int .i64 (p : Int) ∧ Hid (Bx w wr w.heap.size (w.heap.size + 1) (.int .i64 2) (.string nm) (.slice ao n c) (.bool false) (.string ⟨#[]⟩)) ∧ Hid (Mp w wr ao n c (uniq L)) ∧ Hid (∀ x, x ∈ blk (.slice ao n c) → x ≠ w.heap.size ∧ x ≠ w.heap.size + 1) ∧ Hid (L.length ≤ p) ∧ Hid (inF s p L = R)) (fun i _ => s.size - (intOf i).toNat)
  case atStart => exact ⟨t, none, 0, 0, [], l3, rfl, B3, Mp.none B3.out.kp, fun x hx => by simp [blk] at hx, Nat.zero_le _, hR⟩
  case round =>
    obtain ⟨p, ao, n, c, L, hp, rfl, B, M, hx, hL, hI⟩ := hrel
    clear hR B3 l2 l3 l1
    have HK := ref_skip_any wr s (p : Int) (by omega)
    rw [pl_of hp] at HK
    have hk := skip_is s hp
    obtain ⟨q, hq⟩ : ∃ q, skipF s p = q := ⟨_, rfl⟩
    rw [hq] at HK hk
    have l1 := hk.lo
    have l2 := hk.hi
    clear hk
    by_cases h1 : q = s.size
    · have hB := hI.out
      rw [in_end hp (hq.trans h1)] at hB
      subst hB
      have hV := hV0.out rfl
      subst hV
      subst h1
      clear hI hq hL M hx hV0 hV1
      go_wp2_with fail
      refine HK.mono ?_
      rintro e w1 ⟨rfl, rfl⟩
      clear HK
      obtain ⟨_, _, ⟨c0, c1, c2, c3, c4⟩, f0⟩ := B.out.facts
      have D : Hid _ := laid5 B.out.kp B.out.r B.out.n0 (.int .i64 0) (.string ⟨#[]⟩) (.slice none 0 0) (.bool false) (.string ⟨#[]⟩)
      clear B
      go_wp2
      obtain ⟨d0, d1, d2, d3, d4, kz⟩ := D.out
      unfold put5 at d0 d1 d2 d3 d4 kz
      try simp only [Exit.inBlock, Exit.then]
      refine bodyPost_ret (v := .tuple #[.agg #[.int .i64 0, .string ⟨#[]⟩, .slice none 0 0, .bool false, .string ⟨#[]⟩], .int .i64 (s.size : Int), .bool false]) (by simp [results, go_sem, d0, d1, d2, d3, d4]) rfl ⟨_, _, _, rfl, Mp.none kz⟩
    have l3 : q < s.size := by omega
    have b1 : ((q : Int) == (s.size : Int)) = false := by simp only [beq_eq_false_iff_ne, ne_eq]; omega
    have i1 := index_at s (q : Int) q rfl l3
    obtain ⟨r1, r2⟩ := bt_range s q
    by_cases h2 : bt s q = 62
    · have hB := hI.out
      rw [in_gt hp hq l3 h2] at hB
      subst hB
      have hV := hV1.out (by simp)
      subst hV
      rw [h2] at i1
      clear hI hq hL h1 h2 hV0 hV1
      go_wp2_with fail
      refine HK.mono ?_
      rintro e w1 ⟨rfl, rfl⟩
      clear HK
      obtain ⟨⟨z0, z1, z2, z3, z4⟩, _, _, _⟩ := B.out.facts
      go_wp2_with fail
      refine (only_start _ nm ⟨#[]⟩ ao n c false).mono ?_
      rintro e w9 ⟨rfl, k9⟩
      have B9 := B.out.kept k9
      clear z0 z1 z2 z3 z4
      obtain ⟨_, _, ⟨c0, c1, c2, c3, c4⟩, f0⟩ := B9.facts
      have D : Hid _ := laid5 B9.kp B9.r B9.n0 (.int .i64 2) (.string nm) (.slice ao n c) (.bool false) (.string ⟨#[]⟩)
      have M9 : Hid (Mp w (put5 w9 w.heap.size (.int .i64 2) (.string nm) (.slice ao n c) (.bool false) (.string ⟨#[]⟩)) ao n c (uniq L)) := (M.out.kept k9).past ((Kp.refl [w.heap.size] w9).put5 (Or.inl (by simp)) (.int .i64 2) (.string nm) (.slice ao n c) (.bool false) (.string ⟨#[]⟩)) D.out.2.2.2.2.2 (fun x h => by have := (hx.out x h).1; simpa using this)
      clear B9 B M k9 hx
      unfold tv
      go_wp2
      obtain ⟨d0, d1, d2, d3, d4, kz⟩ := D.out
      unfold put5 at d0 d1 d2 d3 d4 kz
      try simp only [Exit.inBlock, Exit.then]
      refine bodyPost_ret (v := .tuple #[.agg #[.int .i64 2, .string nm, .slice ao n c, .bool false, .string ⟨#[]⟩], .int .i64 ((q : Int) + 1), .bool true]) (by simp [results, go_sem, d0, d1, d2, d3, d4]) rfl ⟨_, _, _, rfl, M9.out⟩
    have HG := ref_starts_any wr s (q : Int) ⟨#[47, 62]⟩ (by omega) (by decide)
    rw [pl_of l2, show st s q ⟨#[47, 62]⟩ = st s q SG from rfl] at HG
    have b2 : (bt s q == 62) = false := by simpa using h2
    cases h3 : st s q SG with
    | true =>
      have hB := hI.out
      rw [in_self hp hq l3 h2 h3] at hB
      subst hB
      have hV := hV1.out (by simp)
      subst hV
      rw [h3] at HG
      generalize bt s q = x at i1 r1 r2 b2
      clear hI hq hL h1 h2 h3 hV0 hV1
      go_wp2_with fail
      refine HK.mono ?_
      rintro e w1 ⟨rfl, rfl⟩
      clear HK
      go_wp2_with fail
      refine HG.mono ?_
      rintro e w1 ⟨rfl, rfl⟩
      clear HG
      have B5 := B.out.set 3 (.bool true) (.int .i64 2) (.string nm) (.slice ao n c) (.bool true) (.string ⟨#[]⟩) rfl
      have M5 : Hid (Mp w (w1.setCell ⟨w.heap.size + 1, 3, none⟩ (.bool true)) ao n c (uniq L)) := M.out.past ((Kp.refl [w.heap.size + 1] w1).setCell (p := ⟨w.heap.size + 1, 3, none⟩) (Or.inl (by simp)) (.bool true)) B5.kp (fun x h => by have := (hx.out x h).2; simpa using this)
      obtain ⟨⟨_, _, _, y3, _⟩, yf, _, _⟩ := B.out.facts
      obtain ⟨⟨z0, z1, z2, z3, z4⟩, _, _, _⟩ := B5.facts
      clear B M
      go_wp2_with fail
      clear y3 yf
      refine (only_start _ nm ⟨#[]⟩ ao n c true).mono ?_
      rintro e w9 ⟨rfl, k9⟩
      have B9 := B5.kept k9
      clear z0 z1 z2 z3 z4
      obtain ⟨_, _, ⟨c0, c1, c2, c3, c4⟩, f0⟩ := B9.facts
      have D : Hid _ := laid5 B9.kp B9.r B9.n0 (.int .i64 2) (.string nm) (.slice ao n c) (.bool true) (.string ⟨#[]⟩)
      have M9 : Hid (Mp w (put5 w9 w.heap.size (.int .i64 2) (.string nm) (.slice ao n c) (.bool true) (.string ⟨#[]⟩)) ao n c (uniq L)) := (M5.out.kept k9).past ((Kp.refl [w.heap.size] w9).put5 (Or.inl (by simp)) (.int .i64 2) (.string nm) (.slice ao n c) (.bool true) (.string ⟨#[]⟩)) D.out.2.2.2.2.2 (fun x h => by have := (hx.out x h).1; simpa using this)
      clear B9 B5 M5 k9 hx
      unfold tv
      go_wp2
      obtain ⟨d0, d1, d2, d3, d4, kz⟩ := D.out
      unfold put5 at d0 d1 d2 d3 d4 kz
      try simp only [Exit.inBlock, Exit.then]
      refine bodyPost_ret (v := .tuple #[.agg #[.int .i64 2, .string nm, .slice ao n c, .bool true, .string ⟨#[]⟩], .int .i64 ((q : Int) + 2), .bool true]) (by simp [results, go_sem, d0, d1, d2, d3, d4]) rfl ⟨_, _, _, rfl, M9.out⟩
    | false =>
      rw [h3] at HG
      by_cases h4 : bt s q = 47
      · have hB := hI.out
        rw [in_slash hp hq l3 h3 h4] at hB
        have hB2 : Hid (inF s (q + 1) L = R) := hB
        have hL2 : Hid (L.length ≤ q + 1) := by show _ ≤ _; have := hL.out; omega
        rw [h4] at i1
        clear hI hq hL h1 h2 h3 h4 hB b2 r1 r2
        go_wp2_with fail
        refine HK.mono ?_
        rintro e w1 ⟨rfl, rfl⟩
        clear HK
        go_wp2_with fail
        refine HG.mono ?_
        rintro e w1 ⟨rfl, rfl⟩
        clear HG
        go_wp2
        go_roundw
        case rel => exact ⟨q + 1, _, _, _, L, l3, by go_num, B, M, hx, hL2, hB2⟩
        case measure => simp [intOf]; omega
      · have hB := hI.out
        rw [in_attr hp hq l3 h2 h4] at hB
        have HA := ref_attr_any wr s q l3 (by omega)
        obtain ⟨g1, g2, g3, g4⟩ := aF_goes l3
        generalize aF s q = T at HA g1 g2 g3 g4 hB
        obtain ⟨⟨a1, a2⟩, t, th⟩ := T
        simp only [av] at HA g1 g2 g3 g4 hB
        have b4 : (bt s q == 47) = false := by simpa using h4
        have hn1 : n ≤ 80000 := by have := M.out.len; have := hL.out; have := uniq_len L; omega
        generalize bt s q = x at i1 r1 r2 b2 b4
        clear hI hq h1 h2 h3 h4
        by_cases h5 : th = 0
        · rw [if_pos h5] at hB
          subst hB
          subst h5
          have hV := hV0.out rfl
          subst hV
          clear g3 g4 hL hx hV0 hV1
          go_wp2_with fail
          refine HK.mono ?_
          rintro e w1 ⟨rfl, rfl⟩
          clear HK
          go_wp2_with fail
          refine HG.mono ?_
          rintro e w1 ⟨rfl, rfl⟩
          clear HG
          go_wp2_with fail
          refine HA.mono ?_
          rintro e w3 ⟨rfl, k3⟩
          clear HA
          have k4 := k3.alloc (.cells #[.string a1, .string a2] 73)
          have B4 := B.out.kept k4
          have M4 := M.out.kept k4
          have hr := M4.rp
          clear B M k3 k4
          obtain ⟨_, _, ⟨c0, c1, c2, c3, c4⟩, f0⟩ := B4.facts
          have D : Hid _ := laid5 B4.kp B4.r B4.n0 (.int .i64 0) (.string ⟨#[]⟩) (.slice none 0 0) (.bool false) (.string ⟨#[]⟩)
          clear B4 M4 hr
          go_wp2
          obtain ⟨d0, d1, d2, d3, d4, kz⟩ := D.out
          unfold put5 at d0 d1 d2 d3 d4 kz
          try simp only [Exit.inBlock, Exit.then]
          refine bodyPost_ret (v := .tuple #[.agg #[.int .i64 0, .string ⟨#[]⟩, .slice none 0 0, .bool false, .string ⟨#[]⟩], .int .i64 (s.size : Int), .bool false]) (by simp [results, go_sem, d0, d1, d2, d3, d4]) rfl ⟨_, _, _, rfl, Mp.none kz⟩
        rw [if_neg h5] at hB
        have b5 : (th == 0) = false := by simpa using h5
        have HQ := fun W (hr : Rp W ao n c (uniq L)) => ref_add_any W (uniq L) (a1, a2) ao n c hr (by omega)
        rw [← uniq_snoc] at HQ
        unfold av at HQ
        by_cases h6 : th = 2
        · rw [if_pos h6] at hB
          subst hB
          subst h6
          have hV := hV1.out (by show ¬ t = 0; omega)
          subst hV
          clear g3 g4 hL h5 hV0 hV1
          go_wp2_with fail
          refine HK.mono ?_
          rintro e w1 ⟨rfl, rfl⟩
          clear HK
          go_wp2_with fail
          refine HG.mono ?_
          rintro e w1 ⟨rfl, rfl⟩
          clear HG
          go_wp2_with fail
          refine HA.mono ?_
          rintro e w3 ⟨rfl, k3⟩
          clear HA
          have k4 := k3.alloc (.cells #[.string a1, .string a2] 73)
          have B4 := B.out.kept k4
          have M4 := M.out.kept k4
          have hr := M4.rp
          clear B M k3 k4
          obtain ⟨⟨_, _, v2, _⟩, _, _, _⟩ := B4.facts
          go_wp2_with fail
          clear v2
          refine (HQ _ hr).mono ?_
          rintro e w5 ⟨a5, n5, c5, rfl, M5⟩
          clear HQ hr
          have B5 := B4.kept M5.kp
          have hx6 : Hid (∀ x, x ∈ blk (.slice a5 n5 c5) → x ≠ w.heap.size ∧ x ≠ w.heap.size + 1) := fun x h => by
            have h2 := M5.2.2 x h
            have h3 := B4.a.lt
            have h4 := B4.r.lt
            omega
          have B6 := B5.set 2 (.slice a5 n5 c5) (.int .i64 2) (.string nm) (.slice a5 n5 c5) (.bool false) (.string ⟨#[]⟩) rfl
          have M6 : Hid (Mp w (w5.setCell ⟨w.heap.size + 1, 2, none⟩ (.slice a5 n5 c5)) a5 n5 c5 (uniq (L ++ [(a1, a2)]))) := (M5.back B4.kp).past ((Kp.refl [w.heap.size + 1] w5).setCell (p := ⟨w.heap.size + 1, 2, none⟩) (Or.inl (by simp)) (.slice a5 n5 c5)) B6.kp (fun x h => by have := (hx6.out x h).2; simpa using this)
          obtain ⟨⟨_, _, y2, _⟩, yf, _, _⟩ := B5.facts
          clear M5 B5 B4 M4
          obtain ⟨⟨z0, z1, z2, z3, z4⟩, _, _, _⟩ := B6.facts
          go_wp2_with fail
          clear y2 yf
          clear hx
          refine (only_start _ nm ⟨#[]⟩ a5 n5 c5 false).mono ?_
          rintro e w9 ⟨rfl, k9⟩
          have B9 := B6.kept k9
          clear z0 z1 z2 z3 z4
          obtain ⟨_, _, ⟨c0, c1, c2, c3, c4⟩, f0⟩ := B9.facts
          have D : Hid _ := laid5 B9.kp B9.r B9.n0 (.int .i64 2) (.string nm) (.slice a5 n5 c5) (.bool false) (.string ⟨#[]⟩)
          have M9 : Hid (Mp w (put5 w9 w.heap.size (.int .i64 2) (.string nm) (.slice a5 n5 c5) (.bool false) (.string ⟨#[]⟩)) a5 n5 c5 (uniq (L ++ [(a1, a2)]))) := (M6.out.kept k9).past ((Kp.refl [w.heap.size] w9).put5 (Or.inl (by simp)) (.int .i64 2) (.string nm) (.slice a5 n5 c5) (.bool false) (.string ⟨#[]⟩)) D.out.2.2.2.2.2 (fun x h => by have := (hx6.out x h).1; simpa using this)
          clear B9 B6 M6 k9 hx6
          unfold tv
          go_wp2
          obtain ⟨d0, d1, d2, d3, d4, kz⟩ := D.out
          unfold put5 at d0 d1 d2 d3 d4 kz
          try simp only [Exit.inBlock, Exit.then]
          refine bodyPost_ret (v := .tuple #[.agg #[.int .i64 2, .string nm, .slice a5 n5 c5, .bool false, .string ⟨#[]⟩], .int .i64 (t : Int), .bool true]) (by simp [results, go_sem, d0, d1, d2, d3, d4]) rfl ⟨_, _, _, rfl, M9.out⟩
        · rw [if_neg h6] at hB
          obtain rfl : th = 1 := by omega
          have hB2 : Hid (inF s t (L ++ [(a1, a2)]) = R) := hB
          have hL2 : Hid ((L ++ [(a1, a2)]).length ≤ t) := by show _ ≤ _; have := hL.out; rw [List.length_append, List.length_singleton]; omega
          clear g3 g4 hL hB h5 h6
          go_wp2_with fail
          refine HK.mono ?_
          rintro e w1 ⟨rfl, rfl⟩
          clear HK
          go_wp2_with fail
          refine HG.mono ?_
          rintro e w1 ⟨rfl, rfl⟩
          clear HG
          go_wp2_with fail
          refine HA.mono ?_
          rintro e w3 ⟨rfl, k3⟩
          clear HA
          have k4 := k3.alloc (.cells #[.string a1, .string a2] 73)
          have B4 := B.out.kept k4
          have M4 := M.out.kept k4
          have hr := M4.rp
          clear B M k3 k4
          obtain ⟨⟨_, _, v2, _⟩, _, _, _⟩ := B4.facts
          go_wp2_with fail
          clear v2
          refine (HQ _ hr).mono ?_
          rintro e w5 ⟨a5, n5, c5, rfl, M5⟩
          clear HQ hr
          have B5 := B4.kept M5.kp
          have hx6 : Hid (∀ x, x ∈ blk (.slice a5 n5 c5) → x ≠ w.heap.size ∧ x ≠ w.heap.size + 1) := fun x h => by
            have h2 := M5.2.2 x h
            have h3 := B4.a.lt
            have h4 := B4.r.lt
            omega
          have B6 := B5.set 2 (.slice a5 n5 c5) (.int .i64 2) (.string nm) (.slice a5 n5 c5) (.bool false) (.string ⟨#[]⟩) rfl
          have M6 : Hid (Mp w (w5.setCell ⟨w.heap.size + 1, 2, none⟩ (.slice a5 n5 c5)) a5 n5 c5 (uniq (L ++ [(a1, a2)]))) := (M5.back B4.kp).past ((Kp.refl [w.heap.size + 1] w5).setCell (p := ⟨w.heap.size + 1, 2, none⟩) (Or.inl (by simp)) (.slice a5 n5 c5)) B6.kp (fun x h => by have := (hx6.out x h).2; simpa using this)
          obtain ⟨⟨_, _, y2, _⟩, yf, _, _⟩ := B5.facts
          clear M5 B5 B4 M4
          go_wp2
          clear y2 yf
          go_roundw
          case rel => exact ⟨t, _, _, _, _, g2, rfl, B6, M6, hx6, hL2, hB2⟩
          case measure => simp [intOf]; omega

end Go.Proofs.YtcfaejbbjmjgpaaGreatDoor

/-
  The document's Read of an End.
-/
namespace Go.Proofs.YtcfaejbbjmjgpaaGreatDoor
open Go.RowKit Utf
set_option linter.unusedVariables false

set_option maxHeartbeats 4000000 in
set_option maxRecDepth 100000 in
theorem ref_tread_end (w : World) (s : ByteArray) (p : Nat) (hs : s.size ≤ 4000) (hp : p < s.size) (h3 : bt s p = 60) (h4 : st s (p + 1) SL = true) (h5 : isLet (bt s (p + 2)) = true) : Calls Tryz.prog 44 #[.string s, .int .i64 (p : Int)] w fun e w' => ∃ ao n c, e = .returned (rdv (wholeF s 3 (p + 2)) ao n c) ∧ Mp w w' ao n c (wholeF s 3 (p + 2)).1.2.2.1 := by
  have HS := fun W => ref_starts_any W s (p : Int) ⟨#[60, 47]⟩ (by omega) (by decide)
  rw [pl_of (by omega), lt_sl hp h3, h4] at HS
  have i1 := index_at s (p : Int) p rfl hp
  rw [h3] at i1
  have l1 := let_lt h5
  have i2 := index_at s ((p : Int) + 2) (p + 2) (by omega) l1
  obtain ⟨q1, q2⟩ := bt_range s (p + 2)
  have HL := fun W => ref_letter_any W (bt s (p + 2))
  rw [h5] at HL
  generalize bt s (p + 2) = x at i2 q1 q2 HL
  have HN := fun W => ref_name_any W s ((p + 2 : Nat) : Int) (by omega)
  rw [pl_of (by omega)] at HN
  have hnm := name_is s (p := p + 2) (by omega)
  obtain ⟨V, hV⟩ : ∃ V, wholeF s 3 (p + 2) = V := ⟨_, rfl⟩
  rw [hV]
  unfold wholeF at hV
  generalize nameF s (p + 2) = t at HN hnm hV
  have l2 := hnm.lo
  have l3 := hnm.hi
  have HW := fun W => ref_lower_any W (s.extract (p + 2) t) (by have := cut_le s (p + 2) t; omega)
  generalize lower (s.extract (p + 2) t) = nm at HW hV
  obtain ⟨R, hR⟩ : ∃ R, inF s t [] = R := ⟨_, rfl⟩
  rw [hR] at hV
  have hV0 : Hid (R.2.2 = 0 → V = (zt, (s.size : Int), false)) := fun h => by rw [← hV, if_pos h]
  have hV1 : Hid (¬ R.2.2 = 0 → V = ((3, nm, [], false, ⟨#[]⟩), (R.2.2 : Int), true)) := fun h => by rw [← hV, if_neg h, if_neg (by decide)]
  push_cast at HN
  clear hnm h3 h4 h5 hV
  go_enter Tryz.func44, Tryz.ntmps44
  go_wp2_with fail
  refine (HS _).mono ?_
  rintro e w1 ⟨rfl, rfl⟩
  clear HS
  have B0 := two_new w
  generalize (w.alloc (.cells ZT 44)).alloc (.cells #[.int .i64 2, .string ⟨#[]⟩, .slice none 0 0, .bool false, .string ⟨#[]⟩] 44) = W at B0 ⊢
  have B1 := B0.set 0 (.int .i64 3) (.int .i64 3) (.string ⟨#[]⟩) (.slice none 0 0) (.bool false) (.string ⟨#[]⟩) rfl
  obtain ⟨⟨y0, _⟩, yf, _, _⟩ := B0.facts
  clear B0
  go_wp2_with fail
  refine (HL _).mono ?_
  rintro e w2 ⟨rfl, rfl⟩
  clear HL
  clear y0 yf
  generalize W.setCell ⟨w.heap.size + 1, 0, none⟩ (.int .i64 3) = W2 at B1 ⊢
  go_wp2_with fail
  refine (HN _).mono ?_
  rintro e w2 ⟨rfl, rfl⟩
  clear HN
  go_wp2_with fail
  refine (HW _).mono ?_
  rintro e w2 ⟨rfl, k2⟩
  have B2 := B1.kept k2
  have B3 : Hid (Bx w (w2.setCell ⟨w.heap.size + 1, 1, none⟩ (.string nm)) w.heap.size (w.heap.size + 1) (.int .i64 3) (.string nm) (.slice none 0 0) (.bool false) (.string ⟨#[]⟩)) := B2.set 1 (.string nm) (.int .i64 3) (.string nm) (.slice none 0 0) (.bool false) (.string ⟨#[]⟩) rfl
  obtain ⟨⟨_, y1, _⟩, yf, _, _⟩ := B2.facts
  clear HW k2 B1 B2 i1 i2 q1 q2
  go_wp2
  clear y1 yf
  generalize w2.setCell ⟨w.heap.size + 1, 1, none⟩ (.string nm) = W5 at B3 ⊢
  go_loopw [9] (fun i wr => ∃ (p : Nat) (ao : Option Addr) (n c : Nat) (L : List Att), p ≤ s.size ∧ i = .int .i64 (p : Int) ∧ Hid (Bx w wr w.heap.size (w.heap.size + 1) (.int .i64 3) (.string nm) (.slice ao n c) (.bool false) (.string ⟨#[]⟩)) ∧ Hid (Mp w wr ao n c (uniq L)) ∧ Hid (∀ x, x ∈ blk (.slice ao n c) → x ≠ w.heap.size ∧ x ≠ w.heap.size + 1) ∧ Hid (L.length ≤ p) ∧ Hid (inF s p L = R)) (fun i _ => s.size - (intOf i).toNat)
  case atStart => exact ⟨t, none, 0, 0, [], l3, rfl, B3, Mp.none B3.out.kp, fun x hx => by simp [blk] at hx, Nat.zero_le _, hR⟩
  case round =>
    obtain ⟨p, ao, n, c, L, hp, rfl, B, M, hx, hL, hI⟩ := hrel
    clear hR B3 l2 l3 l1
    have HK := ref_skip_any wr s (p : Int) (by omega)
    rw [pl_of hp] at HK
    have hk := skip_is s hp
    obtain ⟨q, hq⟩ : ∃ q, skipF s p = q := ⟨_, rfl⟩
    rw [hq] at HK hk
    have l1 := hk.lo
    have l2 := hk.hi
    clear hk
    by_cases h1 : q = s.size
    · have hB := hI.out
      rw [in_end hp (hq.trans h1)] at hB
      subst hB
      have hV := hV0.out rfl
      subst hV
      subst h1
      clear hI hq hL M hx hV0 hV1
      go_wp2_with fail
      refine HK.mono ?_
      rintro e w1 ⟨rfl, rfl⟩
      clear HK
      obtain ⟨_, _, ⟨c0, c1, c2, c3, c4⟩, f0⟩ := B.out.facts
      have D : Hid _ := laid5 B.out.kp B.out.r B.out.n0 (.int .i64 0) (.string ⟨#[]⟩) (.slice none 0 0) (.bool false) (.string ⟨#[]⟩)
      clear B
      go_wp2
      obtain ⟨d0, d1, d2, d3, d4, kz⟩ := D.out
      unfold put5 at d0 d1 d2 d3 d4 kz
      try simp only [Exit.inBlock, Exit.then]
      refine bodyPost_ret (v := .tuple #[.agg #[.int .i64 0, .string ⟨#[]⟩, .slice none 0 0, .bool false, .string ⟨#[]⟩], .int .i64 (s.size : Int), .bool false]) (by simp [results, go_sem, d0, d1, d2, d3, d4]) rfl ⟨_, _, _, rfl, Mp.none kz⟩
    have l3 : q < s.size := by omega
    have b1 : ((q : Int) == (s.size : Int)) = false := by simp only [beq_eq_false_iff_ne, ne_eq]; omega
    have i1 := index_at s (q : Int) q rfl l3
    obtain ⟨r1, r2⟩ := bt_range s q
    by_cases h2 : bt s q = 62
    · have hB := hI.out
      rw [in_gt hp hq l3 h2] at hB
      subst hB
      have hV := hV1.out (by simp)
      subst hV
      rw [h2] at i1
      clear hI hq hL h1 h2 hV0 hV1
      go_wp2_with fail
      refine HK.mono ?_
      rintro e w1 ⟨rfl, rfl⟩
      clear HK
      obtain ⟨⟨z0, z1, z2, z3, z4⟩, _, _, _⟩ := B.out.facts
      go_wp2_with fail
      refine (only_end _ nm ⟨#[]⟩ ao n c false).mono ?_
      rintro e w9 ⟨rfl, k9⟩
      have B9 := B.out.kept k9
      clear z0 z1 z2 z3 z4
      obtain ⟨_, _, ⟨c0, c1, c2, c3, c4⟩, f0⟩ := B9.facts
      have D : Hid _ := laid5 B9.kp B9.r B9.n0 (.int .i64 3) (.string nm) (.slice none 0 0) (.bool false) (.string ⟨#[]⟩)
      clear B9 B M k9 hx
      unfold tv
      go_wp2
      obtain ⟨d0, d1, d2, d3, d4, kz⟩ := D.out
      unfold put5 at d0 d1 d2 d3 d4 kz
      try simp only [Exit.inBlock, Exit.then]
      refine bodyPost_ret (v := .tuple #[.agg #[.int .i64 3, .string nm, .slice none 0 0, .bool false, .string ⟨#[]⟩], .int .i64 ((q : Int) + 1), .bool true]) (by simp [results, go_sem, d0, d1, d2, d3, d4]) rfl ⟨_, _, _, rfl, Mp.none kz⟩
    have HG := ref_starts_any wr s (q : Int) ⟨#[47, 62]⟩ (by omega) (by decide)
    rw [pl_of l2, show st s q ⟨#[47, 62]⟩ = st s q SG from rfl] at HG
    have b2 : (bt s q == 62) = false := by simpa using h2
    cases h3 : st s q SG with
    | true =>
      have hB := hI.out
      rw [in_self hp hq l3 h2 h3] at hB
      subst hB
      have hV := hV1.out (by simp)
      subst hV
      rw [h3] at HG
      generalize bt s q = x at i1 r1 r2 b2
      clear hI hq hL h1 h2 h3 hV0 hV1
      go_wp2_with fail
      refine HK.mono ?_
      rintro e w1 ⟨rfl, rfl⟩
      clear HK
      go_wp2_with fail
      refine HG.mono ?_
      rintro e w1 ⟨rfl, rfl⟩
      clear HG
      have B5 := B.out.set 3 (.bool true) (.int .i64 3) (.string nm) (.slice ao n c) (.bool true) (.string ⟨#[]⟩) rfl
      have M5 : Hid (Mp w (w1.setCell ⟨w.heap.size + 1, 3, none⟩ (.bool true)) ao n c (uniq L)) := M.out.past ((Kp.refl [w.heap.size + 1] w1).setCell (p := ⟨w.heap.size + 1, 3, none⟩) (Or.inl (by simp)) (.bool true)) B5.kp (fun x h => by have := (hx.out x h).2; simpa using this)
      obtain ⟨⟨_, _, _, y3, _⟩, yf, _, _⟩ := B.out.facts
      obtain ⟨⟨z0, z1, z2, z3, z4⟩, _, _, _⟩ := B5.facts
      clear B M
      go_wp2_with fail
      clear y3 yf
      refine (only_end _ nm ⟨#[]⟩ ao n c true).mono ?_
      rintro e w9 ⟨rfl, k9⟩
      have B9 := B5.kept k9
      clear z0 z1 z2 z3 z4
      obtain ⟨_, _, ⟨c0, c1, c2, c3, c4⟩, f0⟩ := B9.facts
      have D : Hid _ := laid5 B9.kp B9.r B9.n0 (.int .i64 3) (.string nm) (.slice none 0 0) (.bool false) (.string ⟨#[]⟩)
      clear B9 B5 M5 k9 hx
      unfold tv
      go_wp2
      obtain ⟨d0, d1, d2, d3, d4, kz⟩ := D.out
      unfold put5 at d0 d1 d2 d3 d4 kz
      try simp only [Exit.inBlock, Exit.then]
      refine bodyPost_ret (v := .tuple #[.agg #[.int .i64 3, .string nm, .slice none 0 0, .bool false, .string ⟨#[]⟩], .int .i64 ((q : Int) + 2), .bool true]) (by simp [results, go_sem, d0, d1, d2, d3, d4]) rfl ⟨_, _, _, rfl, Mp.none kz⟩
    | false =>
      rw [h3] at HG
      by_cases h4 : bt s q = 47
      · have hB := hI.out
        rw [in_slash hp hq l3 h3 h4] at hB
        have hB2 : Hid (inF s (q + 1) L = R) := hB
        have hL2 : Hid (L.length ≤ q + 1) := by show _ ≤ _; have := hL.out; omega
        rw [h4] at i1
        clear hI hq hL h1 h2 h3 h4 hB b2 r1 r2
        go_wp2_with fail
        refine HK.mono ?_
        rintro e w1 ⟨rfl, rfl⟩
        clear HK
        go_wp2_with fail
        refine HG.mono ?_
        rintro e w1 ⟨rfl, rfl⟩
        clear HG
        go_wp2
        go_roundw
        case rel => exact ⟨q + 1, _, _, _, L, l3, by go_num, B, M, hx, hL2, hB2⟩
        case measure => simp [intOf]; omega
      · have hB := hI.out
        rw [in_attr hp hq l3 h2 h4] at hB
        have HA := ref_attr_any wr s q l3 (by omega)
        obtain ⟨g1, g2, g3, g4⟩ := aF_goes l3
        generalize aF s q = T at HA g1 g2 g3 g4 hB
        obtain ⟨⟨a1, a2⟩, t, th⟩ := T
        simp only [av] at HA g1 g2 g3 g4 hB
        have b4 : (bt s q == 47) = false := by simpa using h4
        have hn1 : n ≤ 80000 := by have := M.out.len; have := hL.out; have := uniq_len L; omega
        generalize bt s q = x at i1 r1 r2 b2 b4
        clear hI hq h1 h2 h3 h4
        by_cases h5 : th = 0
        · rw [if_pos h5] at hB
          subst hB
          subst h5
          have hV := hV0.out rfl
          subst hV
          clear g3 g4 hL hx hV0 hV1
          go_wp2_with fail
          refine HK.mono ?_
          rintro e w1 ⟨rfl, rfl⟩
          clear HK
          go_wp2_with fail
          refine HG.mono ?_
          rintro e w1 ⟨rfl, rfl⟩
          clear HG
          go_wp2_with fail
          refine HA.mono ?_
          rintro e w3 ⟨rfl, k3⟩
          clear HA
          have k4 := k3.alloc (.cells #[.string a1, .string a2] 73)
          have B4 := B.out.kept k4
          have M4 := M.out.kept k4
          have hr := M4.rp
          clear B M k3 k4
          obtain ⟨_, _, ⟨c0, c1, c2, c3, c4⟩, f0⟩ := B4.facts
          have D : Hid _ := laid5 B4.kp B4.r B4.n0 (.int .i64 0) (.string ⟨#[]⟩) (.slice none 0 0) (.bool false) (.string ⟨#[]⟩)
          clear B4 M4 hr
          go_wp2
          obtain ⟨d0, d1, d2, d3, d4, kz⟩ := D.out
          unfold put5 at d0 d1 d2 d3 d4 kz
          try simp only [Exit.inBlock, Exit.then]
          refine bodyPost_ret (v := .tuple #[.agg #[.int .i64 0, .string ⟨#[]⟩, .slice none 0 0, .bool false, .string ⟨#[]⟩], .int .i64 (s.size : Int), .bool false]) (by simp [results, go_sem, d0, d1, d2, d3, d4]) rfl ⟨_, _, _, rfl, Mp.none kz⟩
        rw [if_neg h5] at hB
        have b5 : (th == 0) = false := by simpa using h5
        have HQ := fun W (hr : Rp W ao n c (uniq L)) => ref_add_any W (uniq L) (a1, a2) ao n c hr (by omega)
        rw [← uniq_snoc] at HQ
        unfold av at HQ
        by_cases h6 : th = 2
        · rw [if_pos h6] at hB
          subst hB
          subst h6
          have hV := hV1.out (by show ¬ t = 0; omega)
          subst hV
          clear g3 g4 hL h5 hV0 hV1
          go_wp2_with fail
          refine HK.mono ?_
          rintro e w1 ⟨rfl, rfl⟩
          clear HK
          go_wp2_with fail
          refine HG.mono ?_
          rintro e w1 ⟨rfl, rfl⟩
          clear HG
          go_wp2_with fail
          refine HA.mono ?_
          rintro e w3 ⟨rfl, k3⟩
          clear HA
          have k4 := k3.alloc (.cells #[.string a1, .string a2] 73)
          have B4 := B.out.kept k4
          have M4 := M.out.kept k4
          have hr := M4.rp
          clear B M k3 k4
          obtain ⟨⟨_, _, v2, _⟩, _, _, _⟩ := B4.facts
          go_wp2_with fail
          clear v2
          refine (HQ _ hr).mono ?_
          rintro e w5 ⟨a5, n5, c5, rfl, M5⟩
          clear HQ hr
          have B5 := B4.kept M5.kp
          have hx6 : Hid (∀ x, x ∈ blk (.slice a5 n5 c5) → x ≠ w.heap.size ∧ x ≠ w.heap.size + 1) := fun x h => by
            have h2 := M5.2.2 x h
            have h3 := B4.a.lt
            have h4 := B4.r.lt
            omega
          have B6 := B5.set 2 (.slice a5 n5 c5) (.int .i64 3) (.string nm) (.slice a5 n5 c5) (.bool false) (.string ⟨#[]⟩) rfl
          have M6 : Hid (Mp w (w5.setCell ⟨w.heap.size + 1, 2, none⟩ (.slice a5 n5 c5)) a5 n5 c5 (uniq (L ++ [(a1, a2)]))) := (M5.back B4.kp).past ((Kp.refl [w.heap.size + 1] w5).setCell (p := ⟨w.heap.size + 1, 2, none⟩) (Or.inl (by simp)) (.slice a5 n5 c5)) B6.kp (fun x h => by have := (hx6.out x h).2; simpa using this)
          obtain ⟨⟨_, _, y2, _⟩, yf, _, _⟩ := B5.facts
          clear M5 B5 B4 M4
          obtain ⟨⟨z0, z1, z2, z3, z4⟩, _, _, _⟩ := B6.facts
          go_wp2_with fail
          clear y2 yf
          clear hx
          refine (only_end _ nm ⟨#[]⟩ a5 n5 c5 false).mono ?_
          rintro e w9 ⟨rfl, k9⟩
          have B9 := B6.kept k9
          clear z0 z1 z2 z3 z4
          obtain ⟨_, _, ⟨c0, c1, c2, c3, c4⟩, f0⟩ := B9.facts
          have D : Hid _ := laid5 B9.kp B9.r B9.n0 (.int .i64 3) (.string nm) (.slice none 0 0) (.bool false) (.string ⟨#[]⟩)
          clear B9 B6 M6 k9 hx6
          unfold tv
          go_wp2
          obtain ⟨d0, d1, d2, d3, d4, kz⟩ := D.out
          unfold put5 at d0 d1 d2 d3 d4 kz
          try simp only [Exit.inBlock, Exit.then]
          refine bodyPost_ret (v := .tuple #[.agg #[.int .i64 3, .string nm, .slice none 0 0, .bool false, .string ⟨#[]⟩], .int .i64 (t : Int), .bool true]) (by simp [results, go_sem, d0, d1, d2, d3, d4]) rfl ⟨_, _, _, rfl, Mp.none kz⟩
        · rw [if_neg h6] at hB
          obtain rfl : th = 1 := by omega
          have hB2 : Hid (inF s t (L ++ [(a1, a2)]) = R) := hB
          have hL2 : Hid ((L ++ [(a1, a2)]).length ≤ t) := by show _ ≤ _; have := hL.out; rw [List.length_append, List.length_singleton]; omega
          clear g3 g4 hL hB h5 h6
          go_wp2_with fail
          refine HK.mono ?_
          rintro e w1 ⟨rfl, rfl⟩
          clear HK
          go_wp2_with fail
          refine HG.mono ?_
          rintro e w1 ⟨rfl, rfl⟩
          clear HG
          go_wp2_with fail
          refine HA.mono ?_
          rintro e w3 ⟨rfl, k3⟩
          clear HA
          have k4 := k3.alloc (.cells #[.string a1, .string a2] 73)
          have B4 := B.out.kept k4
          have M4 := M.out.kept k4
          have hr := M4.rp
          clear B M k3 k4
          obtain ⟨⟨_, _, v2, _⟩, _, _, _⟩ := B4.facts
          go_wp2_with fail
          clear v2
          refine (HQ _ hr).mono ?_
          rintro e w5 ⟨a5, n5, c5, rfl, M5⟩
          clear HQ hr
          have B5 := B4.kept M5.kp
          have hx6 : Hid (∀ x, x ∈ blk (.slice a5 n5 c5) → x ≠ w.heap.size ∧ x ≠ w.heap.size + 1) := fun x h => by
            have h2 := M5.2.2 x h
            have h3 := B4.a.lt
            have h4 := B4.r.lt
            omega
          have B6 := B5.set 2 (.slice a5 n5 c5) (.int .i64 3) (.string nm) (.slice a5 n5 c5) (.bool false) (.string ⟨#[]⟩) rfl
          have M6 : Hid (Mp w (w5.setCell ⟨w.heap.size + 1, 2, none⟩ (.slice a5 n5 c5)) a5 n5 c5 (uniq (L ++ [(a1, a2)]))) := (M5.back B4.kp).past ((Kp.refl [w.heap.size + 1] w5).setCell (p := ⟨w.heap.size + 1, 2, none⟩) (Or.inl (by simp)) (.slice a5 n5 c5)) B6.kp (fun x h => by have := (hx6.out x h).2; simpa using this)
          obtain ⟨⟨_, _, y2, _⟩, yf, _, _⟩ := B5.facts
          clear M5 B5 B4 M4
          go_wp2
          clear y2 yf
          go_roundw
          case rel => exact ⟨t, _, _, _, _, g2, rfl, B6, M6, hx6, hL2, hB2⟩
          case measure => simp [intOf]; omega

end Go.Proofs.YtcfaejbbjmjgpaaGreatDoor

/-
  The document's tag.Read.
-/
namespace Go.Proofs.YtcfaejbbjmjgpaaGreatDoor
open Go.RowKit Utf
set_option linter.unusedVariables false

set_option maxHeartbeats 1000000 in
theorem ref_tread_any (w : World) (s : ByteArray) (a : Int) (hs : s.size ≤ 4000) : Calls Tryz.prog 44 #[.string s, .int .i64 a] w fun e w' => ∃ ao n c, e = .returned (rdv (tagF s a) ao n c) ∧ Mp w w' ao n c (tagF s a).1.2.2.1 := by
  by_cases h : 0 ≤ a ∧ a < s.size ∧ bt s a.toNat = 60
  · obtain ⟨h1, h2, h3⟩ := h
    obtain ⟨p, rfl⟩ : ∃ p : Nat, a = p := ⟨a.toNat, by omega⟩
    rw [Int.toNat_natCast] at h3
    have hp : p < s.size := by omega
    cases h4 : st s (p + 1) SL with
    | true =>
      have hb := beg_end hp h3 h4
      cases h5 : isLet (bt s (p + 2)) with
      | true =>
        rw [h5, if_pos rfl] at hb
        rw [tag_some hb (by decide)]
        exact ref_tread_end w s p hs hp h3 h4 h5
      | false =>
        rw [h5, if_neg (by simp)] at hb
        rw [tag_none hb]
        exact ref_tread_no w s p hs hb
    | false =>
      have hb := beg_start hp h3 h4
      cases h5 : isLet (bt s (p + 1)) with
      | true =>
        rw [h5, if_pos rfl] at hb
        rw [tag_some hb (by decide)]
        exact ref_tread_start w s p hs hp h3 h4 h5
      | false =>
        rw [h5, if_neg (by simp)] at hb
        rw [tag_none hb]
        exact ref_tread_no w s p hs hb
  · have hb := beg_no h
    rw [tag_none hb]
    exact ref_tread_no w s a hs hb

end Go.Proofs.YtcfaejbbjmjgpaaGreatDoor
