/-
  The document's Read, where a name may stand, and of any place.
-/
import Derived.Test.YtgebdaanglmnnaaDoorRefRead
namespace Go.Proofs.YtgebdaanglmnnaaDoor
open Go.RowKit Utf
set_option linter.unusedVariables false

set_option maxHeartbeats 1000000 in
/-- Where the two signs of a number do not stand. -/
theorem ref_read_nam (w : World) (s : ByteArray) (p : Nat) (attr : Bool) (hp : p < s.size) (h3 : bt s p = 38) (hs : s.size ≤ 100000) (h1 : st s p HSH = false) : Calls Tryd.prog 51 #[.string s, .int .i64 p, .bool attr] w fun e w' => e = .returned (.tuple #[.string (rT s p attr), .int .i64 (rE s p : Int)]) ∧ Kp [] w w' := by
  have i1 := index_at s (p : Int) p rfl hp
  rw [h3] at i1
  have H1 := still (ref_starts_any w s p ⟨#[38, 35]⟩ hs (by decide))
  rw [pl_of (by omega), show st s p ⟨#[38, 35]⟩ = false from h1] at H1
  rw [rT_nam (isN_no h1), rE_nam (isN_no h1)]
  have H2 := fun W => ref_named_any W (s.extract (p + 1) s.size)
  rw [show found (s.extract (p + 1) s.size) = nmAt s p from rfl] at H2
  have hz := nmAt_le hp
  have hT : nT s p attr = if (nmAt s p).size = 0 then AMP else if (attr && !(bt s (p + (nmAt s p).size) == 59) && goes s (p + 1 + (nmAt s p).size)) then s.extract p (p + 1 + (nmAt s p).size) else mean (nmAt s p) := rfl
  generalize nT s p attr = T at hT
  generalize mean (nmAt s p) = M at H2 hT
  generalize (nmAt s p).size = z at H2 hz hT
  push_cast
  clear h1 h3
  by_cases h0 : z = 0
  · rw [if_pos h0] at hT
    subst h0
    subst hT
    go_enter Tryd.func51, Tryd.ntmps51
    go_wp2_with fail
    refine H1.mono ?_
    rintro e w1 ⟨rfl, k1⟩
    clear H1
    go_wp2_with fail
    refine (from_back (H2 _) k1).mono ?_
    rintro e w2 ⟨rfl, k2⟩
    clear H2 k1
    go_wp2
    go_ret2
    exact ⟨rfl, k2⟩
  rw [if_neg h0] at hT
  have hz0 : ((z : Int) == 0) = false := by simp only [beq_eq_false_iff_ne, ne_eq]; omega
  have hz1 : z < s.size := by omega
  cases attr with
  | false =>
    rw [if_neg (by simp)] at hT
    subst hT
    clear h0
    go_enter Tryd.func51, Tryd.ntmps51
    go_wp2_with fail
    refine H1.mono ?_
    rintro e w1 ⟨rfl, k1⟩
    clear H1
    go_wp2_with fail
    refine (from_back (H2 _) k1).mono ?_
    rintro e w2 ⟨rfl, k2⟩
    clear H2 k1
    go_wp2
    go_ret2
    exact ⟨rfl, k2⟩
  | true =>
    have i2 := index_at s ((p : Int) + 1 + (z : Int) - 1) (p + z) (by omega) (by omega)
    obtain ⟨r1, r2⟩ := bt_range s (p + z)
    generalize bt s (p + z) = x at i2 r1 r2 hT
    by_cases hx : x = 59
    · rw [if_neg (by simp [hx])] at hT
      subst hT
      subst hx
      clear h0
      go_enter Tryd.func51, Tryd.ntmps51
      go_wp2_with fail
      refine H1.mono ?_
      rintro e w1 ⟨rfl, k1⟩
      clear H1
      go_wp2_with fail
      refine (from_back (H2 _) k1).mono ?_
      rintro e w2 ⟨rfl, k2⟩
      clear H2 k1
      go_wp2
      go_ret2
      exact ⟨rfl, k2⟩
    have hx1 : (x == 59) = false := by simpa using hx
    have hx2 : (x != 59) = true := by simpa using hx
    rw [hx1] at hT
    clear hx h0
    by_cases hq : p + 1 + z < s.size
    · rw [goes_in hq] at hT
      have hq2 : (p : Int) + 1 + (z : Int) < (s.size : Int) := by omega
      have i3 := index_at s ((p : Int) + 1 + (z : Int)) (p + 1 + z) (by omega) hq
      obtain ⟨r3, r4⟩ := bt_range s (p + 1 + z)
      generalize bt s (p + 1 + z) = y at i3 r3 r4 hT
      have HL := fun W => ref_letter_any W y
      have HD := fun W => ref_digit_any W y
      by_cases hy : y = 61
      · subst hy
        rw [if_pos (by simp)] at hT
        subst hT
        clear HL HD
        go_enter Tryd.func51, Tryd.ntmps51
        go_wp2_with fail
        refine H1.mono ?_
        rintro e w1 ⟨rfl, k1⟩
        clear H1
        go_wp2_with fail
        refine (from_back (H2 _) k1).mono ?_
        rintro e w2 ⟨rfl, k2⟩
        clear H2 k1
        go_wp2
        go_ret2
        exact ⟨rfl, k2⟩
      have hy1 : (y == 61) = false := by simpa using hy
      rw [hy1] at hT
      clear hy
      cases hL : isLet y with
      | true =>
        rw [hL, if_pos (by simp)] at hT
        simp only [hL] at HL
        subst hT
        clear HD hL
        go_enter Tryd.func51, Tryd.ntmps51
        go_wp2_with fail
        refine H1.mono ?_
        rintro e w1 ⟨rfl, k1⟩
        clear H1
        go_wp2_with fail
        refine (from_back (H2 _) k1).mono ?_
        rintro e w2 ⟨rfl, k2⟩
        clear H2 k1
        go_wp2_with fail
        refine (HL _).mono ?_
        rintro e w3 ⟨rfl, rfl⟩
        clear HL
        go_wp2
        go_ret2
        exact ⟨rfl, k2⟩
      | false =>
        simp only [hL] at HL
        rw [hL] at hT
        clear hL
        cases hD : isDig y with
        | true =>
          rw [hD, if_pos (by simp)] at hT
          simp only [hD] at HD
          subst hT
          clear hD
          go_enter Tryd.func51, Tryd.ntmps51
          go_wp2_with fail
          refine H1.mono ?_
          rintro e w1 ⟨rfl, k1⟩
          clear H1
          go_wp2_with fail
          refine (from_back (H2 _) k1).mono ?_
          rintro e w2 ⟨rfl, k2⟩
          clear H2 k1
          go_wp2_with fail
          refine (HL _).mono ?_
          rintro e w3 ⟨rfl, rfl⟩
          clear HL
          go_wp2_with fail
          refine (HD _).mono ?_
          rintro e w4 ⟨rfl, rfl⟩
          clear HD
          go_wp2
          go_ret2
          exact ⟨rfl, k2⟩
        | false =>
          rw [hD, if_neg (by simp)] at hT
          simp only [hD] at HD
          subst hT
          clear hD
          go_enter Tryd.func51, Tryd.ntmps51
          go_wp2_with fail
          refine H1.mono ?_
          rintro e w1 ⟨rfl, k1⟩
          clear H1
          go_wp2_with fail
          refine (from_back (H2 _) k1).mono ?_
          rintro e w2 ⟨rfl, k2⟩
          clear H2 k1
          go_wp2_with fail
          refine (HL _).mono ?_
          rintro e w3 ⟨rfl, rfl⟩
          clear HL
          go_wp2_with fail
          refine (HD _).mono ?_
          rintro e w4 ⟨rfl, rfl⟩
          clear HD
          go_wp2
          go_ret2
          exact ⟨rfl, k2⟩
    · rw [goes_no hq, if_neg (by simp)] at hT
      subst hT
      have hq2 : ¬ (p : Int) + 1 + (z : Int) < (s.size : Int) := by omega
      go_enter Tryd.func51, Tryd.ntmps51
      go_wp2_with fail
      refine H1.mono ?_
      rintro e w1 ⟨rfl, k1⟩
      clear H1
      go_wp2_with fail
      refine (from_back (H2 _) k1).mono ?_
      rintro e w2 ⟨rfl, k2⟩
      clear H2 k1
      go_wp2
      go_ret2
      exact ⟨rfl, k2⟩

set_option maxHeartbeats 1000000 in
theorem ref_read_any (w : World) (s : ByteArray) (a : Int) (attr : Bool) (hs : s.size ≤ 100000) : Calls Tryd.prog 51 #[.string s, .int .i64 a, .bool attr] w fun e w' => e = .returned (.tuple #[.string (rAT s a attr), .int .i64 (rAE s a)]) ∧ Kp [] w w' := by
  by_cases ha : 0 ≤ a ∧ a < s.size ∧ bt s a.toNat = 38
  · obtain ⟨h1, h2, h3⟩ := ha
    obtain ⟨p, rfl⟩ : ∃ p : Nat, a = p := ⟨a.toNat, by omega⟩
    rw [Int.toNat_natCast] at h3
    have hp : p < s.size := by omega
    obtain ⟨e1, e2⟩ := rA_yes hp h3 attr
    rw [e1, e2]
    cases h : st s p HSH with
    | true => exact ref_read_num w s p attr hp h3 hs h
    | false => exact ref_read_nam w s p attr hp h3 hs h
  · obtain ⟨e1, e2⟩ := rA_no ha attr
    rw [e1, e2]
    clear e1 e2
    by_cases h1 : a < 0
    · clear ha
      go_enter Tryd.func51, Tryd.ntmps51
      go_wp2
      go_ret2
      exact ⟨rfl, Kp.refl _ _⟩
    by_cases h2 : a < s.size
    · obtain ⟨p, rfl⟩ : ∃ p : Nat, a = p := ⟨a.toNat, by omega⟩
      have hp : p < s.size := by omega
      have i1 := index_at s (p : Int) p rfl hp
      have h3 : ¬ bt s p = 38 := fun h => ha ⟨by omega, h2, by rw [Int.toNat_natCast]; exact h⟩
      obtain ⟨r1, r2⟩ := bt_range s p
      generalize bt s p = x at i1 h3 r1 r2
      have h4 : (x != 38) = true := by simpa using h3
      clear ha h3
      go_enter Tryd.func51, Tryd.ntmps51
      go_wp2
      go_ret2
      exact ⟨rfl, Kp.refl _ _⟩
    · clear ha
      go_enter Tryd.func51, Tryd.ntmps51
      go_wp2
      go_ret2
      exact ⟨rfl, Kp.refl _ _⟩

end Go.Proofs.YtgebdaanglmnnaaDoor
