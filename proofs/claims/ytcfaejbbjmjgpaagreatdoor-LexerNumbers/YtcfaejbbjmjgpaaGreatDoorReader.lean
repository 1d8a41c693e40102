/-
  The program's numbered, goesOn, named and Read, of any text and any place.
-/
import Derived.Test.YtcfaejbbjmjgpaaGreatDoorGroundC
import Derived.Test.YtcfaejbbjmjgpaaGreatDoorGroundB
import Derived.Test.YtcfaejbbjmjgpaaGreatDoorGroundD
import Derived.Test.YtcfaejbbjmjgpaaGreatDoorGroundA
import Derived.OwnWalk
namespace Go.Proofs.YtcfaejbbjmjgpaaGreatDoor
open Go.RowKit Utf
set_option linter.unusedVariables false

theorem cap_64 {u : Int} (h : 0 ≤ u) : int64 (cap u) := by
  have := cap_range h
  unfold int64
  omega

theorem isN_no {s : ByteArray} {p : Nat} (h : st s p HSH = false) : isN s p = false := by unfold isN; rw [h]; rfl
theorem isN_none {s : ByteArray} {p : Nat} (h : nend s p = dfr s p) : isN s p = false := by unfold isN; rw [decide_eq_false (fun k => k h), Bool.and_false]
theorem isN_yes {s : ByteArray} {p : Nat} (h : st s p HSH = true) (h2 : ¬ nend s p = dfr s p) : isN s p = true := by unfold isN; rw [h, decide_eq_true h2]; rfl
theorem rE_num {s : ByteArray} {p : Nat} (h : isN s p = true) : rE s p = if st s (nend s p) SEM then nend s p + 1 else nend s p := by unfold rE; rw [if_pos h]

set_option maxHeartbeats 1000000 in
/-- Behind the digits: the number, and the place. -/
theorem numbered_yes (w : World) (hi : In w) (s : ByteArray) (p : Nat) (hp : p < s.size) (hs : s.size ≤ 100000) (h : isN s p = true) : Calls Tryz.prog 103 #[.string s, .int .i64 p] w fun e w' => e = .returned (.tuple #[.string (numAt s p), .int .i64 (rE s p : Int), .bool true]) ∧ Kp [] w w' := by
  have h1 := isN_st h
  have h2 := dfr_le h1
  have h3 := nend_le h1
  have h4 : ¬ nend s p = dfr s p := by
    unfold isN at h
    rw [h1] at h
    simpa using h
  have hE := rE_num h
  have H1 := starts_any w s p ⟨#[38, 35]⟩ hs
  rw [pl_of (by omega), show st s p ⟨#[38, 35]⟩ = true from h1] at H1
  have H2 := fun W => fold_any W s p ⟨#[38, 35, 120]⟩ hs
  rw [pl_of (by omega), fo_hash h1] at H2
  have H3 := fun W => digits_any W s (dfr s p) (bas s p) (bas_tens s p) h2.2 hs
  rw [show dend s (bas s p) (dfr s p) = nend s p from rfl] at H3
  have H4 := fun W => starts_any W s (nend s p) ⟨#[59]⟩ hs
  rw [pl_of h3.2] at H4
  have hu := uv_pos (s := s) (bas_tens s p) (dfr s p) (nend s p - dfr s p)
  have H5 := fun W (kk : Kp [] w W) => number_any W (hi.kept kk) _ (cap_64 hu)
  rw [num_cap, show num (uv s (bas s p) (dfr s p) (nend s p - dfr s p)) = numAt s p from rfl] at H5
  have hcr := cap_range hu
  generalize cap (uv s (bas s p) (dfr s p) (nend s p - dfr s p)) = u at H3 H5 hcr
  generalize numAt s p = t at H5
  clear hu hi h
  rw [hE]
  rw [show st s (nend s p) SEM = st s (nend s p) ⟨#[59]⟩ from rfl]
  generalize st s (nend s p) ⟨#[59]⟩ = sb at H4
  generalize hq : nend s p = q at H3 H4 h3 h4
  clear hq hE
  have hx0 : (hx s p = false ∧ dfr s p = p + 2 ∧ bas s p = 10) ∨ (hx s p = true ∧ dfr s p = p + 3 ∧ bas s p = 16) := by
    unfold dfr bas
    cases hx s p <;> simp
  have hne : ((q : Int) == (dfr s p : Int)) = false := by
    simp only [beq_eq_false_iff_ne, ne_eq]
    omega
  rcases hx0 with ⟨e1, e2, e3⟩ | ⟨e1, e2, e3⟩
  all_goals
    rw [e1] at H2
    rw [e2] at H3 hne h2 h3
    rw [e3] at H3
    clear e1 e2 e3 h4 h1
    push_cast at H3 hne
    cases sb
    all_goals
      go_enter Tryz.func103, Tryz.ntmps103
      go_wp2_with fail
      refine H1.mono ?_
      rintro e w1 ⟨rfl, k1⟩
      clear H1
      go_wp2_with fail
      refine (from_back (H2 _) k1).mono ?_
      rintro e w2 ⟨rfl, k2⟩
      clear H2 k1
      go_wp2_with fail
      refine (H3 _).mono ?_
      rintro e w3 ⟨rfl, rfl⟩
      clear H3
      go_wp2_with fail
      refine (from_back (H4 _) k2).mono ?_
      rintro e w4 ⟨rfl, k4⟩
      clear H4 k2
      go_wp2_with fail
      refine (H5 _ k4).mono ?_
      rintro e w5 ⟨rfl, rfl⟩
      clear H5
      go_wp2
      go_ret3
      exact ⟨rfl, k4⟩

set_option maxHeartbeats 1000000 in
/-- No number stands there. -/
theorem numbered_no (w : World) (s : ByteArray) (p : Nat) (hp : p < s.size) (hs : s.size ≤ 100000) (h : isN s p = false) : Calls Tryz.prog 103 #[.string s, .int .i64 p] w fun e w' => e = .returned (.tuple #[.string ⟨#[]⟩, .int .i64 0, .bool false]) ∧ Kp [] w w' := by
  have H1 := starts_any w s p ⟨#[38, 35]⟩ hs
  rw [pl_of (by omega), show st s p ⟨#[38, 35]⟩ = st s p HSH from rfl] at H1
  cases h1 : st s p HSH with
  | false =>
    rw [h1] at H1
    clear h1 h
    go_enter Tryz.func103, Tryz.ntmps103
    go_wp2_with fail
    refine H1.mono ?_
    rintro e w1 ⟨rfl, k1⟩
    clear H1
    go_wp2
    go_ret3
    exact ⟨rfl, k1⟩
  | true =>
    rw [h1] at H1
    have h2 := dfr_le h1
    have h4 : nend s p = dfr s p := by
      unfold isN at h
      rw [h1] at h
      simpa using h
    have H2 := fun W => fold_any W s p ⟨#[38, 35, 120]⟩ hs
    rw [pl_of (by omega), fo_hash h1] at H2
    have H3 := fun W => digits_any W s (dfr s p) (bas s p) (bas_tens s p) h2.2 hs
    rw [show dend s (bas s p) (dfr s p) = nend s p from rfl, h4] at H3
    generalize cap (uv s (bas s p) (dfr s p) (dfr s p - dfr s p)) = u at H3
    have hx0 : (hx s p = false ∧ dfr s p = p + 2 ∧ bas s p = 10) ∨ (hx s p = true ∧ dfr s p = p + 3 ∧ bas s p = 16) := by
      unfold dfr bas
      cases hx s p <;> simp
    clear h
    rcases hx0 with ⟨e1, e2, e3⟩ | ⟨e1, e2, e3⟩
    all_goals
      rw [e1] at H2
      rw [e2] at H3 h2
      rw [e3] at H3
      clear e1 e2 e3 h4 h1
      push_cast at H3
      go_enter Tryz.func103, Tryz.ntmps103
      go_wp2_with fail
      refine H1.mono ?_
      rintro e w1 ⟨rfl, k1⟩
      clear H1
      go_wp2_with fail
      refine (from_back (H2 _) k1).mono ?_
      rintro e w2 ⟨rfl, k2⟩
      clear H2 k1
      go_wp2_with fail
      refine (H3 _).mono ?_
      rintro e w3 ⟨rfl, rfl⟩
      clear H3
      go_wp2
      go_ret3
      exact ⟨rfl, k2⟩

theorem goes_no {s : ByteArray} {q : Nat} (h : ¬ q < s.size) : goes s q = false := by unfold goes; rw [decide_eq_false h]; rfl
theorem goes_in {s : ByteArray} {q : Nat} (h : q < s.size) : goes s q = (bt s q == 61 || isLet (bt s q) || isDig (bt s q)) := by unfold goes; rw [decide_eq_true h]; rfl

theorem goes_any (w : World) (s : ByteArray) (q : Nat) (hs : s.size ≤ 100000) : Calls Tryz.prog 114 #[.string s, .int .i64 q] w fun e w' => e = .returned (.bool (goes s q)) ∧ w' = w := by
  by_cases hq : q < s.size
  · have i1 := index_at s (q : Int) q rfl hq
    obtain ⟨r1, r2⟩ := bt_range s q
    rw [goes_in hq]
    generalize bt s q = x at i1 r1 r2
    have HL := letter_any w x
    have HD := digit_any w x
    by_cases h1 : x = 61
    · subst h1
      clear HL HD
      go_enter Tryz.func114, Tryz.ntmps114
      go_wp2
      go_ret
      exact ⟨rfl, rfl⟩
    have b1 : (x == 61) = false := by simpa using h1
    rw [b1]
    clear h1
    cases hL : isLet x with
    | true =>
      rw [hL] at HL
      clear HD
      go_enter Tryz.func114, Tryz.ntmps114
      go_wp2_with fail
      refine HL.mono ?_
      rintro e w1 ⟨rfl, rfl⟩
      clear HL
      go_wp2
      go_ret
      exact ⟨rfl, rfl⟩
    | false =>
      rw [hL] at HL
      generalize isDig x = d at HD
      go_enter Tryz.func114, Tryz.ntmps114
      go_wp2_with fail
      refine HL.mono ?_
      rintro e w1 ⟨rfl, rfl⟩
      clear HL
      go_wp2_with fail
      refine HD.mono ?_
      rintro e w1 ⟨rfl, rfl⟩
      clear HD
      go_wp2
      go_ret
      exact ⟨rfl, rfl⟩
  · rw [goes_no hq]
    go_enter Tryz.func114, Tryz.ntmps114
    go_wp2
    go_ret
    exact ⟨rfl, rfl⟩

/-- What a name, or its lack, stands for. -/
def nT (s : ByteArray) (p : Nat) (attr : Bool) : ByteArray := if (nmAt s p).size = 0 then AMP else if left s p attr then s.extract p (p + 1 + (nmAt s p).size) else mean (nmAt s p)

set_option maxHeartbeats 1000000 in
theorem nameds_any (w : World) (hn : Nm w) (s : ByteArray) (p : Nat) (attr : Bool) (hp : p < s.size) (hs : s.size ≤ 100000) : Calls Tryz.prog 104 #[.string s, .int .i64 p, .bool attr] w fun e w' => e = .returned (.tuple #[.string (nT s p attr), .int .i64 ((p + 1 + (nmAt s p).size : Nat) : Int)]) ∧ Kp [] w w' := by
  have H1 := named_any w hn (s.extract (p + 1) s.size)
  rw [show found (s.extract (p + 1) s.size) = nmAt s p from rfl] at H1
  have hz := nmAt_le hp
  have HC := fun W => clone_any W (s.extract p (p + 1 + (nmAt s p).size)) (by rw [ByteArray.size_extract]; omega)
  have HG := fun W => goes_any W s (p + 1 + (nmAt s p).size) hs
  have hT : nT s p attr = if (nmAt s p).size = 0 then AMP else if (attr && !(bt s (p + (nmAt s p).size) == 59) && goes s (p + 1 + (nmAt s p).size)) then s.extract p (p + 1 + (nmAt s p).size) else mean (nmAt s p) := rfl
  generalize nT s p attr = T at hT
  generalize mean (nmAt s p) = M at H1 hT
  generalize (nmAt s p).size = z at H1 hz HC HG hT
  clear hn
  push_cast at HG
  push_cast
  by_cases h0 : z = 0
  · rw [if_pos h0] at hT
    subst h0
    subst hT
    clear HC HG
    go_enter Tryz.func104, Tryz.ntmps104
    go_wp2_with fail
    refine H1.mono ?_
    rintro e w1 ⟨rfl, rfl⟩
    clear H1
    go_wp2
    go_ret2
    exact ⟨rfl, Kp.refl _ _⟩
  · rw [if_neg h0] at hT
    have hz0 : ((z : Int) == 0) = false := by simp only [beq_eq_false_iff_ne, ne_eq]; omega
    have hz1 : z < s.size := by omega
    cases attr with
    | false =>
      rw [if_neg (by simp)] at hT
      subst hT
      clear HC HG h0
      go_enter Tryz.func104, Tryz.ntmps104
      go_wp2_with fail
      refine H1.mono ?_
      rintro e w1 ⟨rfl, rfl⟩
      clear H1
      go_wp2
      go_ret2
      exact ⟨rfl, Kp.refl _ _⟩
    | true =>
      have i1 := index_at s ((p : Int) + 1 + (z : Int) - 1) (p + z) (by omega) (by omega)
      obtain ⟨r1, r2⟩ := bt_range s (p + z)
      generalize bt s (p + z) = x at i1 r1 r2 hT
      by_cases hx : x = 59
      · rw [if_neg (by simp [hx])] at hT
        subst hT
        subst hx
        clear HC HG h0
        go_enter Tryz.func104, Tryz.ntmps104
        go_wp2_with fail
        refine H1.mono ?_
        rintro e w1 ⟨rfl, rfl⟩
        clear H1
        go_wp2
        go_ret2
        exact ⟨rfl, Kp.refl _ _⟩
      · have hx1 : (x == 59) = false := by simpa using hx
        have hx2 : (x != 59) = true := by simpa using hx
        rw [hx1] at hT
        clear hx h0
        cases hg : goes s (p + 1 + z) with
        | false =>
          rw [hg] at HG hT
          rw [if_neg (by simp)] at hT
          subst hT
          clear HC hg
          go_enter Tryz.func104, Tryz.ntmps104
          go_wp2_with fail
          refine H1.mono ?_
          rintro e w1 ⟨rfl, rfl⟩
          clear H1
          go_wp2_with fail
          refine (HG _).mono ?_
          rintro e w1 ⟨rfl, rfl⟩
          clear HG
          go_wp2
          go_ret2
          exact ⟨rfl, Kp.refl _ _⟩
        | true =>
          rw [hg] at HG hT
          rw [if_pos (by simp)] at hT
          subst hT
          clear hg
          go_enter Tryz.func104, Tryz.ntmps104
          go_wp2_with fail
          refine H1.mono ?_
          rintro e w1 ⟨rfl, rfl⟩
          clear H1
          go_wp2_with fail
          refine (HG _).mono ?_
          rintro e w1 ⟨rfl, rfl⟩
          clear HG
          go_wp2_with fail
          refine (HC _).mono ?_
          rintro e w2 ⟨rfl, k2⟩
          clear HC
          go_wp2
          go_ret2
          exact ⟨rfl, k2⟩

theorem rT_num {s : ByteArray} {p : Nat} (h : isN s p = true) (attr : Bool) : rT s p attr = numAt s p := by unfold rT; rw [if_pos h]
theorem rT_nam {s : ByteArray} {p : Nat} (h : isN s p = false) (attr : Bool) : rT s p attr = nT s p attr := by unfold rT nT; rw [if_neg (by rw [h]; simp)]
theorem rE_nam {s : ByteArray} {p : Nat} (h : isN s p = false) : rE s p = p + 1 + (nmAt s p).size := by unfold rE; rw [if_neg (by rw [h]; simp)]

set_option maxHeartbeats 1000000 in
theorem read_any (w : World) (hn : Nm w) (hi : In w) (s : ByteArray) (a : Int) (attr : Bool) (hs : s.size ≤ 100000) : Calls Tryz.prog 90 #[.string s, .int .i64 a, .bool attr] w fun e w' => e = .returned (.tuple #[.string (rAT s a attr), .int .i64 (rAE s a)]) ∧ Kp [] w w' := by
  by_cases ha : 0 ≤ a ∧ a < s.size ∧ bt s a.toNat = 38
  · obtain ⟨h1, h2, h3⟩ := ha
    obtain ⟨p, rfl⟩ : ∃ p : Nat, a = p := ⟨a.toNat, by omega⟩
    rw [Int.toNat_natCast] at h3
    have hp : p < s.size := by omega
    have i1 := index_at s (p : Int) p rfl hp
    obtain ⟨e1, e2⟩ := rA_yes hp h3 attr
    rw [e1, e2]
    rw [h3] at i1
    cases h : isN s p with
    | true =>
      rw [rT_num h]
      have H := numbered_yes w hi s p hp hs h
      clear e1 e2 hn hi h3 h
      generalize rE s p = r at H
      generalize numAt s p = t at H
      go_enter Tryz.func90, Tryz.ntmps90
      go_wp2_with fail
      refine H.mono ?_
      rintro e w1 ⟨rfl, k1⟩
      clear H
      go_wp2
      go_ret2
      exact ⟨rfl, k1⟩
    | false =>
      rw [rT_nam h, rE_nam h]
      have H := numbered_no w s p hp hs h
      have H2 := fun W (kk : Kp [] w W) => nameds_any W (hn.kept kk) s p attr hp hs
      clear e1 e2 hn hi h3 h
      generalize p + 1 + (nmAt s p).size = r at H2
      generalize nT s p attr = t at H2
      go_enter Tryz.func90, Tryz.ntmps90
      go_wp2_with fail
      refine H.mono ?_
      rintro e w1 ⟨rfl, k1⟩
      clear H
      go_wp2_with fail
      refine (from_back (H2 _ k1) k1).mono ?_
      rintro e w2 ⟨rfl, k2⟩
      clear H2
      go_wp2
      go_ret2
      exact ⟨rfl, k2⟩
  · obtain ⟨e1, e2⟩ := rA_no ha attr
    rw [e1, e2]
    clear e1 e2 hn hi
    by_cases h1 : a < 0
    · clear ha
      go_enter Tryz.func90, Tryz.ntmps90
      go_wp2
      go_ret2
      exact ⟨rfl, Kp.refl _ _⟩
    by_cases h2 : a < s.size
    · obtain ⟨p, rfl⟩ : ∃ p : Nat, a = p := ⟨a.toNat, by omega⟩
      have hp : p < s.size := by omega
      have i1 := index_at s (p : Int) p rfl hp
      have h3 : ¬ bt s p = 38 := fun h => ha ⟨by omega, h2, by rw [Int.toNat_natCast]; exact h⟩
      obtain ⟨r1, r2⟩ := bt_range s p
      generalize bt s p = x at i1 h3 r1 r2
      have h4 : (x != 38) = true := by simpa using h3
      clear ha h3
      go_enter Tryz.func90, Tryz.ntmps90
      go_wp2
      go_ret2
      exact ⟨rfl, Kp.refl _ _⟩
    · clear ha
      go_enter Tryz.func90, Tryz.ntmps90
      go_wp2
      go_ret2
      exact ⟨rfl, Kp.refl _ _⟩

end Go.Proofs.YtcfaejbbjmjgpaaGreatDoor
