/-
  Joined: RefRead RefReadB.
-/
import Derived.Test.YtcfaejbbjmjgpaaGreatDoorReader
import Derived.Test.YtcfaejbbjmjgpaaGreatDoorGroundB
import Derived.Test.YtcfaejbbjmjgpaaGreatDoorRefNamed

/-
  The document's Read, of any text and any place.
-/
namespace Go.Proofs.YtcfaejbbjmjgpaaGreatDoor
open Go.RowKit Utf
set_option linter.unusedVariables false

theorem st_sem (s : ByteArray) (q : Nat) : st s q SEM = (decide (q < s.size) && (bt s q == 59)) := by
  by_cases hq : q < s.size
  · rw [decide_eq_true hq, Bool.true_and]
    by_cases hb : bt s q = 59
    · rw [beq_iff_eq.2 hb]
      refine st_true (by rw [show SEM.size = 1 from rfl]; omega) fun j hj => ?_
      rw [show SEM.size = 1 from rfl] at hj
      obtain rfl : j = 0 := by omega
      rw [Nat.add_zero, hb]
      decide
    · rw [beq_eq_false_iff_ne.2 hb]
      refine st_not 0 (by decide) ?_
      rw [Nat.add_zero, show bt SEM 0 = 59 by decide]
      exact hb
  · rw [decide_eq_false hq, Bool.false_and]
    exact st_long (by rw [show SEM.size = 1 from rfl]; omega)

theorem near_64 {m u : Int} (h : Near m u) (hu : 0 ≤ u) : int64 m := by
  have := near_range h hu
  unfold int64
  omega

theorem ref_digits_at (w : World) (s : ByteArray) (i : Int) (p : Nat) (b : Int) (hi : i = (p : Int)) (hb : Tens b) (hp : p ≤ s.size) (hs : s.size ≤ 100000) : Calls Tryz.prog 69 #[.string s, .int .i64 i, .int .i64 b] w fun e w' => ∃ m, e = .returned (.tuple #[.int .i64 m, .int .i64 (dend s b p : Int)]) ∧ Near m (uv s b p (dend s b p - p)) ∧ w' = w := by
  subst hi
  exact ref_digits_any w s p b hb hp hs

set_option maxHeartbeats 1000000 in
/-- Where the two signs of a number stand. -/
theorem ref_read_num (w : World) (s : ByteArray) (p : Nat) (attr : Bool) (hp : p < s.size) (h3 : bt s p = 38) (hs : s.size ≤ 100000) (h1 : st s p HSH = true) : Calls Tryz.prog 45 #[.string s, .int .i64 p, .bool attr] w fun e w' => e = .returned (.tuple #[.string (rT s p attr), .int .i64 (rE s p : Int)]) ∧ Kp [] w w' := by
  have i1 := index_at s (p : Int) p rfl hp
  rw [h3] at i1
  have h2 := dfr_le h1
  have hne := nend_le h1
  have H1 := fun W => still (ref_starts_any W s p ⟨#[38, 35]⟩ hs (by decide))
  rw [pl_of (by omega), show st s p ⟨#[38, 35]⟩ = true from h1] at H1
  have H2 := fun W => ref_fold_any W s ((p : Int) + 2) ⟨#[120]⟩ hs (by decide)
  rw [show (p : Int) + 2 = ((p + 2 : Nat) : Int) by omega, pl_of (by omega), show fo s (p + 2) ⟨#[120]⟩ = hx s p from rfl, show ((p + 2 : Nat) : Int) = (p : Int) + 2 by omega] at H2
  have H3 := fun W (i : Int) (hi : i = (dfr s p : Int)) => ref_digits_at W s i (dfr s p) (bas s p) hi (bas_tens s p) h2.2 hs
  rw [show dend s (bas s p) (dfr s p) = nend s p from rfl] at H3
  have hu := uv_pos (s := s) (bas_tens s p) (dfr s p) (nend s p - dfr s p)
  have H5 := fun W m (hm : Near m (uv s (bas s p) (dfr s p) (nend s p - dfr s p))) => (show Calls Tryz.prog 70 #[.int .i64 m] W fun e w' => e = .returned (.string (numAt s p)) ∧ Kp [] W w' by
    have := ref_number_any W m (near_64 hm hu)
    rw [near_num hm] at this
    exact this)
  generalize uv s (bas s p) (dfr s p) (nend s p - dfr s p) = u at H3 H5 hu
  have hx0 : (hx s p = false ∧ dfr s p = p + 2 ∧ bas s p = 10) ∨ (hx s p = true ∧ dfr s p = p + 3 ∧ bas s p = 16) := by
    unfold dfr bas
    cases hx s p <;> simp
  by_cases h4 : nend s p = dfr s p
  · rw [rT_nam (isN_none h4), rE_nam (isN_none h4)]
    rw [show nT s p attr = AMP by unfold nT; rw [nmAt_hash h1]; rfl, nmAt_hash h1, show p + 1 + ByteArray.size ⟨#[]⟩ = p + 1 from rfl]
    rw [h4] at H3
    clear H5 h3
    rcases hx0 with ⟨e1, e2, e3⟩ | ⟨e1, e2, e3⟩
    all_goals
      rw [e1] at H2
      rw [e2] at H3 h2
      rw [e3] at H3
      clear e1 e2 e3 h4 h1 hne
      push_cast at H3
      go_enter Tryz.func45, Tryz.ntmps45
      go_wp2_with fail
      refine (H1 _).mono ?_
      rintro e w1 ⟨rfl, k1⟩
      clear H1
      go_wp2_with fail
      refine (from_back (H2 _) k1).mono ?_
      rintro e w2 ⟨rfl, k2⟩
      clear H2 k1
      go_wp2_with fail
      refine (H3 _ _ (by omega)).mono ?_
      rintro e w3 ⟨m, rfl, hm, rfl⟩
      clear H3 hm
      go_wp2
      go_ret2
      exact ⟨by push_cast; rfl, k2⟩
  · have hN := isN_yes h1 h4
    rw [rT_num hN, rE_num hN]
    have hsem := st_sem s (nend s p)
    have i2 := fun (hq : nend s p < s.size) => index_at s (nend s p : Int) (nend s p) rfl hq
    have r0 := bt_range s (nend s p)
    have hneq : ((nend s p : Int) == (dfr s p : Int)) = false := by
      simp only [beq_eq_false_iff_ne, ne_eq]
      omega
    generalize numAt s p = t at H5
    generalize bt s (nend s p) = x at hsem i2 r0
    generalize st s (nend s p) SEM = sb at hsem
    generalize nend s p = q at H3 hsem i2 hneq hne h4
    clear hN h1 h3 h4
    obtain ⟨r1, r2⟩ := r0
    have hw : (sb = false ∧ ¬ q < s.size) ∨ (sb = false ∧ q < s.size ∧ (x == 59) = false) ∨ (sb = true ∧ q < s.size ∧ x = 59) := by
      by_cases hq : q < s.size
      · right
        rw [decide_eq_true hq, Bool.true_and] at hsem
        cases hb : (x == 59)
        · left; exact ⟨by rw [hsem, hb], hq, rfl⟩
        · right; exact ⟨by rw [hsem, hb], hq, by simpa using hb⟩
      · left
        rw [decide_eq_false hq, Bool.false_and] at hsem
        exact ⟨hsem, hq⟩
    clear hsem
    rcases hx0 with ⟨e1, e2, e3⟩ | ⟨e1, e2, e3⟩
    all_goals
      rw [e1] at H2
      rw [e2] at H3 h2 hne hneq
      rw [e3] at H3
      clear e1 e2 e3
      push_cast at H3 hneq
      rcases hw with ⟨rfl, hq⟩ | ⟨rfl, hq, hb⟩ | ⟨rfl, hq, rfl⟩
      · clear i2
        go_enter Tryz.func45, Tryz.ntmps45
        go_wp2_with fail
        refine (H1 _).mono ?_
        rintro e w1 ⟨rfl, k1⟩
        clear H1
        go_wp2_with fail
        refine (from_back (H2 _) k1).mono ?_
        rintro e w2 ⟨rfl, k2⟩
        clear H2 k1
        go_wp2_with fail
        refine (H3 _ _ (by omega)).mono ?_
        rintro e w3 ⟨m, rfl, hm, rfl⟩
        clear H3
        go_wp2_with fail
        refine (from_back (H5 _ _ hm) k2).mono ?_
        rintro e w4 ⟨rfl, k4⟩
        clear H5 hm
        go_wp2
        go_ret2
        exact ⟨rfl, k4⟩
      · replace i2 := i2 hq
        go_enter Tryz.func45, Tryz.ntmps45
        go_wp2_with fail
        refine (H1 _).mono ?_
        rintro e w1 ⟨rfl, k1⟩
        clear H1
        go_wp2_with fail
        refine (from_back (H2 _) k1).mono ?_
        rintro e w2 ⟨rfl, k2⟩
        clear H2 k1
        go_wp2_with fail
        refine (H3 _ _ (by omega)).mono ?_
        rintro e w3 ⟨m, rfl, hm, rfl⟩
        clear H3
        go_wp2_with fail
        refine (from_back (H5 _ _ hm) k2).mono ?_
        rintro e w4 ⟨rfl, k4⟩
        clear H5 hm
        go_wp2
        go_ret2
        exact ⟨rfl, k4⟩
      · replace i2 := i2 hq
        go_enter Tryz.func45, Tryz.ntmps45
        go_wp2_with fail
        refine (H1 _).mono ?_
        rintro e w1 ⟨rfl, k1⟩
        clear H1
        go_wp2_with fail
        refine (from_back (H2 _) k1).mono ?_
        rintro e w2 ⟨rfl, k2⟩
        clear H2 k1
        go_wp2_with fail
        refine (H3 _ _ (by omega)).mono ?_
        rintro e w3 ⟨m, rfl, hm, rfl⟩
        clear H3
        go_wp2_with fail
        refine (from_back (H5 _ _ hm) k2).mono ?_
        rintro e w4 ⟨rfl, k4⟩
        clear H5 hm
        go_wp2
        go_ret2
        exact ⟨rfl, k4⟩

end Go.Proofs.YtcfaejbbjmjgpaaGreatDoor

/-
  The document's Read, where a name may stand, and of any place.
-/
namespace Go.Proofs.YtcfaejbbjmjgpaaGreatDoor
open Go.RowKit Utf
set_option linter.unusedVariables false

set_option maxHeartbeats 1000000 in
/-- Where the two signs of a number do not stand. -/
theorem ref_read_nam (w : World) (s : ByteArray) (p : Nat) (attr : Bool) (hp : p < s.size) (h3 : bt s p = 38) (hs : s.size ≤ 100000) (h1 : st s p HSH = false) : Calls Tryz.prog 45 #[.string s, .int .i64 p, .bool attr] w fun e w' => e = .returned (.tuple #[.string (rT s p attr), .int .i64 (rE s p : Int)]) ∧ Kp [] w w' := by
  have i1 := index_at s (p : Int) p rfl hp
  rw [h3] at i1
  have H1 := still (ref_starts_any w s p ⟨#[38, 35]⟩ hs (by decide))
  rw [pl_of (by omega), show st s p ⟨#[38, 35]⟩ = false from h1] at H1
  rw [rT_nam (isN_no h1), rE_nam (isN_no h1)]
  have H2 := fun W => ref_named_any W (s.extract (p + 1) s.size)
  rw [show found (s.extract (p + 1) s.size) = nmAt s p from rfl] at H2
  have hz := nmAt_le hp
  have hT : nT s p attr = if (nmAt s p).size = 0 then AMP else if (attr && !(bt s (p + (nmAt s p).size) == 59) && goes s (p + 1 + (nmAt s p).size)) then s.extract p (p + 1 + (nmAt s p).size) else mean (nmAt s p) := rfl
  generalize nT s p attr = T at hT
  generalize mean (nmAt s p) = M at H2 hT
  generalize (nmAt s p).size = z at H2 hz hT
  push_cast
  clear h1 h3
  by_cases h0 : z = 0
  · rw [if_pos h0] at hT
    subst h0
    subst hT
    go_enter Tryz.func45, Tryz.ntmps45
    go_wp2_with fail
    refine H1.mono ?_
    rintro e w1 ⟨rfl, k1⟩
    clear H1
    go_wp2_with fail
    refine (from_back (H2 _) k1).mono ?_
    rintro e w2 ⟨rfl, k2⟩
    clear H2 k1
    go_wp2
    go_ret2
    exact ⟨rfl, k2⟩
  rw [if_neg h0] at hT
  have hz0 : ((z : Int) == 0) = false := by simp only [beq_eq_false_iff_ne, ne_eq]; omega
  have hz1 : z < s.size := by omega
  cases attr with
  | false =>
    rw [if_neg (by simp)] at hT
    subst hT
    clear h0
    go_enter Tryz.func45, Tryz.ntmps45
    go_wp2_with fail
    refine H1.mono ?_
    rintro e w1 ⟨rfl, k1⟩
    clear H1
    go_wp2_with fail
    refine (from_back (H2 _) k1).mono ?_
    rintro e w2 ⟨rfl, k2⟩
    clear H2 k1
    go_wp2
    go_ret2
    exact ⟨rfl, k2⟩
  | true =>
    have i2 := index_at s ((p : Int) + 1 + (z : Int) - 1) (p + z) (by omega) (by omega)
    obtain ⟨r1, r2⟩ := bt_range s (p + z)
    generalize bt s (p + z) = x at i2 r1 r2 hT
    by_cases hx : x = 59
    · rw [if_neg (by simp [hx])] at hT
      subst hT
      subst hx
      clear h0
      go_enter Tryz.func45, Tryz.ntmps45
      go_wp2_with fail
      refine H1.mono ?_
      rintro e w1 ⟨rfl, k1⟩
      clear H1
      go_wp2_with fail
      refine (from_back (H2 _) k1).mono ?_
      rintro e w2 ⟨rfl, k2⟩
      clear H2 k1
      go_wp2
      go_ret2
      exact ⟨rfl, k2⟩
    have hx1 : (x == 59) = false := by simpa using hx
    have hx2 : (x != 59) = true := by simpa using hx
    rw [hx1] at hT
    clear hx h0
    by_cases hq : p + 1 + z < s.size
    · rw [goes_in hq] at hT
      have hq2 : (p : Int) + 1 + (z : Int) < (s.size : Int) := by omega
      have i3 := index_at s ((p : Int) + 1 + (z : Int)) (p + 1 + z) (by omega) hq
      obtain ⟨r3, r4⟩ := bt_range s (p + 1 + z)
      generalize bt s (p + 1 + z) = y at i3 r3 r4 hT
      have HL := fun W => ref_letter_any W y
      have HD := fun W => ref_digit_any W y
      by_cases hy : y = 61
      · subst hy
        rw [if_pos (by simp)] at hT
        subst hT
        clear HL HD
        go_enter Tryz.func45, Tryz.ntmps45
        go_wp2_with fail
        refine H1.mono ?_
        rintro e w1 ⟨rfl, k1⟩
        clear H1
        go_wp2_with fail
        refine (from_back (H2 _) k1).mono ?_
        rintro e w2 ⟨rfl, k2⟩
        clear H2 k1
        go_wp2
        go_ret2
        exact ⟨rfl, k2⟩
      have hy1 : (y == 61) = false := by simpa using hy
      rw [hy1] at hT
      clear hy
      cases hL : isLet y with
      | true =>
        rw [hL, if_pos (by simp)] at hT
        simp only [hL] at HL
        subst hT
        clear HD hL
        go_enter Tryz.func45, Tryz.ntmps45
        go_wp2_with fail
        refine H1.mono ?_
        rintro e w1 ⟨rfl, k1⟩
        clear H1
        go_wp2_with fail
        refine (from_back (H2 _) k1).mono ?_
        rintro e w2 ⟨rfl, k2⟩
        clear H2 k1
        go_wp2_with fail
        refine (HL _).mono ?_
        rintro e w3 ⟨rfl, rfl⟩
        clear HL
        go_wp2
        go_ret2
        exact ⟨rfl, k2⟩
      | false =>
        simp only [hL] at HL
        rw [hL] at hT
        clear hL
        cases hD : isDig y with
        | true =>
          rw [hD, if_pos (by simp)] at hT
          simp only [hD] at HD
          subst hT
          clear hD
          go_enter Tryz.func45, Tryz.ntmps45
          go_wp2_with fail
          refine H1.mono ?_
          rintro e w1 ⟨rfl, k1⟩
          clear H1
          go_wp2_with fail
          refine (from_back (H2 _) k1).mono ?_
          rintro e w2 ⟨rfl, k2⟩
          clear H2 k1
          go_wp2_with fail
          refine (HL _).mono ?_
          rintro e w3 ⟨rfl, rfl⟩
          clear HL
          go_wp2_with fail
          refine (HD _).mono ?_
          rintro e w4 ⟨rfl, rfl⟩
          clear HD
          go_wp2
          go_ret2
          exact ⟨rfl, k2⟩
        | false =>
          rw [hD, if_neg (by simp)] at hT
          simp only [hD] at HD
          subst hT
          clear hD
          go_enter Tryz.func45, Tryz.ntmps45
          go_wp2_with fail
          refine H1.mono ?_
          rintro e w1 ⟨rfl, k1⟩
          clear H1
          go_wp2_with fail
          refine (from_back (H2 _) k1).mono ?_
          rintro e w2 ⟨rfl, k2⟩
          clear H2 k1
          go_wp2_with fail
          refine (HL _).mono ?_
          rintro e w3 ⟨rfl, rfl⟩
          clear HL
          go_wp2_with fail
          refine (HD _).mono ?_
          rintro e w4 ⟨rfl, rfl⟩
          clear HD
          go_wp2
          go_ret2
          exact ⟨rfl, k2⟩
    · rw [goes_no hq, if_neg (by simp)] at hT
      subst hT
      have hq2 : ¬ (p : Int) + 1 + (z : Int) < (s.size : Int) := by omega
      go_enter Tryz.func45, Tryz.ntmps45
      go_wp2_with fail
      refine H1.mono ?_
      rintro e w1 ⟨rfl, k1⟩
      clear H1
      go_wp2_with fail
      refine (from_back (H2 _) k1).mono ?_
      rintro e w2 ⟨rfl, k2⟩
      clear H2 k1
      go_wp2
      go_ret2
      exact ⟨rfl, k2⟩

set_option maxHeartbeats 1000000 in
theorem ref_read_any (w : World) (s : ByteArray) (a : Int) (attr : Bool) (hs : s.size ≤ 100000) : Calls Tryz.prog 45 #[.string s, .int .i64 a, .bool attr] w fun e w' => e = .returned (.tuple #[.string (rAT s a attr), .int .i64 (rAE s a)]) ∧ Kp [] w w' := by
  by_cases ha : 0 ≤ a ∧ a < s.size ∧ bt s a.toNat = 38
  · obtain ⟨h1, h2, h3⟩ := ha
    obtain ⟨p, rfl⟩ : ∃ p : Nat, a = p := ⟨a.toNat, by omega⟩
    rw [Int.toNat_natCast] at h3
    have hp : p < s.size := by omega
    obtain ⟨e1, e2⟩ := rA_yes hp h3 attr
    rw [e1, e2]
    cases h : st s p HSH with
    | true => exact ref_read_num w s p attr hp h3 hs h
    | false => exact ref_read_nam w s p attr hp h3 hs h
  · obtain ⟨e1, e2⟩ := rA_no ha attr
    rw [e1, e2]
    clear e1 e2
    by_cases h1 : a < 0
    · clear ha
      go_enter Tryz.func45, Tryz.ntmps45
      go_wp2
      go_ret2
      exact ⟨rfl, Kp.refl _ _⟩
    by_cases h2 : a < s.size
    · obtain ⟨p, rfl⟩ : ∃ p : Nat, a = p := ⟨a.toNat, by omega⟩
      have hp : p < s.size := by omega
      have i1 := index_at s (p : Int) p rfl hp
      have h3 : ¬ bt s p = 38 := fun h => ha ⟨by omega, h2, by rw [Int.toNat_natCast]; exact h⟩
      obtain ⟨r1, r2⟩ := bt_range s p
      generalize bt s p = x at i1 h3 r1 r2
      have h4 : (x != 38) = true := by simpa using h3
      clear ha h3
      go_enter Tryz.func45, Tryz.ntmps45
      go_wp2
      go_ret2
      exact ⟨rfl, Kp.refl _ _⟩
    · clear ha
      go_enter Tryz.func45, Tryz.ntmps45
      go_wp2
      go_ret2
      exact ⟨rfl, Kp.refl _ _⟩

end Go.Proofs.YtcfaejbbjmjgpaaGreatDoor
