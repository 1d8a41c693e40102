/-
  Tags by themselves: what an attribute is, what stands behind a tag's name, what a tag is. No program.
-/
import Derived.Test.YtgebdaanglmnnaaDoorTok
namespace Go.Proofs.YtgebdaanglmnnaaDoor
open Go.RowKit Utf
set_option linter.unusedVariables false

/-- What ends an attribute's name. -/
def NE : ByteArray := { data := #[9, 10, 12, 13, 32, 47, 62, 61] }
/-- What ends a bare value. -/
def VE : ByteArray := { data := #[9, 10, 12, 13, 32, 62] }
def EQ : ByteArray := { data := #[61] }
def SG : ByteArray := { data := #[47, 62] }
def SL : ByteArray := { data := #[47] }

/-- The next place where that byte stands. -/
def byF (s : ByteArray) (c : Int) (p : Nat) : Nat := fs (fun i => decide (bt s i = c)) p s.size

/-- A value, behind an equals sign and its Spaces: what it is, the place behind it, and 1; 2, if the tag ends there; 0, if it is cut off. -/
def vF (s : ByteArray) (p : Nat) : ByteArray × Nat × Int :=
  if p = s.size then (⟨#[]⟩, s.size, 0)
  else if bt s p = 62 then (⟨#[]⟩, p + 1, 2)
  else if bt s p = 34 ∨ bt s p = 39 then
    (if byF s (bt s p) (p + 1) = s.size then (⟨#[]⟩, s.size, 0) else (allF (s.extract (p + 1) (byF s (bt s p) (p + 1))) true 0, byF s (bt s p) (p + 1) + 1, 1))
  else if untilF s VE p = s.size then (⟨#[]⟩, s.size, 0)
  else (allF (s.extract p (untilF s VE p)) true 0, untilF s VE p, 1)

/-- An attribute: what it is, the place behind it, and 1; 2, if with it the tag ends; 0, if it is cut off. -/
def aF (s : ByteArray) (p : Nat) : Att × Nat × Int :=
  if untilF s NE (p + 1) = s.size then ((⟨#[]⟩, ⟨#[]⟩), s.size, 0)
  else if st s (skipF s (untilF s NE (p + 1))) EQ = false then ((lower (s.extract p (untilF s NE (p + 1))), ⟨#[]⟩), skipF s (untilF s NE (p + 1)), 1)
  else if (vF s (skipF s (skipF s (untilF s NE (p + 1)) + 1))).2.2 = 0 then ((⟨#[]⟩, ⟨#[]⟩), s.size, 0)
  else ((lower (s.extract p (untilF s NE (p + 1))), (vF s (skipF s (skipF s (untilF s NE (p + 1)) + 1))).1), (vF s (skipF s (skipF s (untilF s NE (p + 1)) + 1))).2)

theorem skip_is (s : ByteArray) {p : Nat} (h : p ≤ s.size) : Fs (fun i => !isSp (bt s i)) p s.size (skipF s p) := fs_is _ h
theorem until_is (s set : ByteArray) {p : Nat} (h : p ≤ s.size) : Fs (fun i => inS set (bt s i)) p s.size (untilF s set p) := fs_is _ h
theorem by_is (s : ByteArray) (c : Int) {p : Nat} (h : p ≤ s.size) : Fs (fun i => decide (bt s i = c)) p s.size (byF s c p) := fs_is _ h
theorem name_is (s : ByteArray) {p : Nat} (h : p ≤ s.size) : Fs (fun i => enN (bt s i)) p s.size (nameF s p) := fs_is _ h

theorem eq_is {s : ByteArray} {p : Nat} : st s p EQ = true ↔ p < s.size ∧ bt s p = 61 := by
  constructor
  · intro h
    exact ⟨st_le h, st_at h 0 (by decide)⟩
  · rintro ⟨h1, h2⟩
    refine st_true h1 fun j hj => ?_
    have hj1 : j < 1 := hj
    obtain rfl : j = 0 := by omega
    exact h2

theorem sg_is {s : ByteArray} {p : Nat} : st s p SG = true ↔ p + 1 < s.size ∧ bt s p = 47 ∧ bt s (p + 1) = 62 := by
  constructor
  · intro h
    exact ⟨st_le h, st_at h 0 (by decide), st_at h 1 (by decide)⟩
  · rintro ⟨h1, h2, h3⟩
    refine st_true h1 fun j hj => ?_
    have hj1 : j < 2 := hj
    rcases (show j = 0 ∨ j = 1 by omega) with rfl | rfl
    · exact h2
    · exact h3

theorem ve_gt : inS VE 62 = true := by
  unfold inS
  exact decide_eq_true ⟨5, by decide, by decide⟩

/-- A value goes on, and within the text. -/
theorem vF_goes {s : ByteArray} {p : Nat} (hp : p ≤ s.size) : p ≤ (vF s p).2.1 ∧ (vF s p).2.1 ≤ s.size ∧ ((vF s p).2.2 = 0 ∨ (vF s p).2.2 = 1 ∨ (vF s p).2.2 = 2) ∧ ((vF s p).2.2 = 0 → (vF s p).2.1 = s.size) := by
  unfold vF
  by_cases h1 : p = s.size
  · rw [if_pos h1]
    exact ⟨hp, Nat.le_refl _, Or.inl rfl, fun _ => rfl⟩
  rw [if_neg h1]
  by_cases h2 : bt s p = 62
  · rw [if_pos h2]
    exact ⟨Nat.le_succ _, by show p + 1 ≤ _; omega, Or.inr (Or.inr rfl), fun h => by cases h⟩
  rw [if_neg h2]
  by_cases h3 : bt s p = 34 ∨ bt s p = 39
  · rw [if_pos h3]
    have hb := by_is s (bt s p) (p := p + 1) (by omega)
    by_cases h4 : byF s (bt s p) (p + 1) = s.size
    · rw [if_pos h4]
      exact ⟨hp, Nat.le_refl _, Or.inl rfl, fun _ => rfl⟩
    · rw [if_neg h4]
      have := hb.lo
      have := hb.hi
      exact ⟨by show p ≤ _ + 1; omega, by show _ + 1 ≤ _; omega, Or.inr (Or.inl rfl), fun h => by cases h⟩
  · rw [if_neg h3]
    have hb := until_is s VE hp
    by_cases h4 : untilF s VE p = s.size
    · rw [if_pos h4]
      exact ⟨hp, Nat.le_refl _, Or.inl rfl, fun _ => rfl⟩
    · rw [if_neg h4]
      exact ⟨hb.lo, hb.hi, Or.inr (Or.inl rfl), fun h => by cases h⟩

/-- An attribute goes on, and within the text; one that is cut off is nothing. -/
theorem aF_goes {s : ByteArray} {p : Nat} (hp : p < s.size) : p < (aF s p).2.1 ∧ (aF s p).2.1 ≤ s.size ∧ ((aF s p).2.2 = 0 ∨ (aF s p).2.2 = 1 ∨ (aF s p).2.2 = 2) ∧ ((aF s p).2.2 = 0 → aF s p = ((⟨#[]⟩, ⟨#[]⟩), s.size, 0)) := by
  unfold aF
  have hu := until_is s NE (p := p + 1) hp
  generalize untilF s NE (p + 1) = e at hu ⊢
  by_cases h1 : e = s.size
  · rw [if_pos h1]
    exact ⟨hp, Nat.le_refl _, Or.inl rfl, fun _ => rfl⟩
  rw [if_neg h1]
  have hk := skip_is s (p := e) hu.hi
  generalize skipF s e = k at hk ⊢
  have l1 := hu.lo
  have l2 := hu.hi
  have l3 := hk.lo
  by_cases h2 : st s k EQ = false
  · rw [if_pos h2]
    exact ⟨by show p < k; omega, hk.hi, Or.inr (Or.inl rfl), fun h => by cases h⟩
  rw [if_neg h2]
  have h3 : k < s.size := (eq_is.1 (by simpa using h2)).1
  have hj := skip_is s (p := k + 1) h3
  generalize skipF s (k + 1) = j at hj ⊢
  have l4 := hj.lo
  obtain ⟨g1, g2, g3, g4⟩ := vF_goes (s := s) (p := j) hj.hi
  by_cases h4 : (vF s j).2.2 = 0
  · rw [if_pos h4]
    exact ⟨hp, Nat.le_refl _, Or.inl rfl, fun _ => rfl⟩
  · rw [if_neg h4]
    exact ⟨by show p < (vF s j).2.1; omega, g2, g3, fun h => absurd h h4⟩

/-- What stands behind a tag's name: its attributes, whether it has Self, and the place behind it; 0, if it is cut off. -/
def rF (s : ByteArray) : Nat → Nat → List Att → List Att × Bool × Nat
  | 0, _, _ => ([], false, 0)
  | n + 1, p, l =>
    if skipF s p = s.size then ([], false, 0)
    else if bt s (skipF s p) = 62 then (l, false, skipF s p + 1)
    else if st s (skipF s p) SG = true then (l, true, skipF s p + 2)
    else if bt s (skipF s p) = 47 then rF s n (skipF s p + 1) l
    else if (aF s (skipF s p)).2.2 = 0 then ([], false, 0)
    else if (aF s (skipF s p)).2.2 = 2 then (l ++ [(aF s (skipF s p)).1], false, (aF s (skipF s p)).2.1)
    else rF s n (aF s (skipF s p)).2.1 (l ++ [(aF s (skipF s p)).1])

theorem rF_same (s : ByteArray) : ∀ (n m p : Nat) (l : List Att), p ≤ s.size → s.size + 1 - p ≤ n → s.size + 1 - p ≤ m → rF s n p l = rF s m p l
  | 0, _, p, l, hp, hn, _ => by omega
  | _, 0, p, l, hp, _, hm => by omega
  | n + 1, m + 1, p, l, hp, hn, hm => by
    have hk := skip_is s hp
    have l1 := hk.lo
    have l2 := hk.hi
    unfold rF
    by_cases h1 : skipF s p = s.size
    · rw [if_pos h1, if_pos h1]
    rw [if_neg h1, if_neg h1, rF_same s n m (skipF s p + 1) l (by omega) (by omega) (by omega)]
    obtain ⟨g1, g2, _⟩ := aF_goes (s := s) (p := skipF s p) (by omega)
    rw [rF_same s n m (aF s (skipF s p)).2.1 _ g2 (by omega) (by omega)]

def inF (s : ByteArray) (p : Nat) (l : List Att) : List Att × Bool × Nat := rF s (s.size + 1 - p) p l

/-- One round, the place behind the Spaces known. -/
theorem in_step {s : ByteArray} {p q : Nat} (hp : p ≤ s.size) (hq : skipF s p = q) (l : List Att) : inF s p l =
    if q = s.size then ([], false, 0)
    else if bt s q = 62 then (l, false, q + 1)
    else if st s q SG = true then (l, true, q + 2)
    else if bt s q = 47 then inF s (q + 1) l
    else if (aF s q).2.2 = 0 then ([], false, 0)
    else if (aF s q).2.2 = 2 then (l ++ [(aF s q).1], false, (aF s q).2.1)
    else inF s (aF s q).2.1 (l ++ [(aF s q).1]) := by
  have hk := skip_is s hp
  rw [hq] at hk
  have l1 := hk.lo
  have l2 := hk.hi
  unfold inF
  rw [show s.size + 1 - p = (s.size - p) + 1 by omega]
  conv => lhs; unfold rF
  rw [hq]
  by_cases h1 : q = s.size
  · rw [if_pos h1, if_pos h1]
  rw [if_neg h1, if_neg h1]
  obtain ⟨g1, g2, _⟩ := aF_goes (s := s) (p := q) (by omega)
  rw [rF_same s (s.size - p) (s.size + 1 - (q + 1)) (q + 1) l (by omega) (by omega) (by omega), rF_same s (s.size - p) (s.size + 1 - (aF s q).2.1) (aF s q).2.1 _ g2 (by omega) (by omega)]

theorem rF_len (s : ByteArray) : ∀ (n p : Nat) (l : List Att), p ≤ s.size → l.length ≤ p → (rF s n p l).1.length ≤ s.size
  | 0, p, l, hp, hl => Nat.zero_le _
  | n + 1, p, l, hp, hl => by
    have hk := skip_is s hp
    have l1 := hk.lo
    have l2 := hk.hi
    unfold rF
    by_cases h1 : skipF s p = s.size
    · rw [if_pos h1]; exact Nat.zero_le _
    rw [if_neg h1]
    split
    · show l.length ≤ _; omega
    split
    · show l.length ≤ _; omega
    split
    · exact rF_len s n _ l (by omega) (by omega)
    obtain ⟨g1, g2, _⟩ := aF_goes (s := s) (p := skipF s p) (by omega)
    split
    · exact Nat.zero_le _
    split
    · show (l ++ [_]).length ≤ _; rw [List.length_append, List.length_singleton]; omega
    · exact rF_len s n _ _ g2 (by rw [List.length_append, List.length_singleton]; omega)

/-- Which kind of tag begins there, and where its name does; 0 of none. -/
def begF (s : ByteArray) (a : Int) : Int × Nat :=
  if 0 ≤ a ∧ a < s.size ∧ bt s a.toNat = 60 then
    (if st s (a.toNat + 1) SL = true then (if isLet (bt s (a.toNat + 2)) = true then (3, a.toNat + 2) else (0, 0))
    else if isLet (bt s (a.toNat + 1)) = true then (2, a.toNat + 1) else (0, 0))
  else (0, 0)

/-- A token that is nothing. -/
def zt : Tok := (0, ⟨#[]⟩, [], false, ⟨#[]⟩)

/-- A tag whose name begins at f. -/
def wholeF (s : ByteArray) (k : Int) (f : Nat) : Tok × Int × Bool :=
  if (inF s (nameF s f) []).2.2 = 0 then (zt, (s.size : Int), false)
  else if k = 2 then ((2, lower (s.extract f (nameF s f)), uniq (inF s (nameF s f) []).1, (inF s (nameF s f) []).2.1, ⟨#[]⟩), ((inF s (nameF s f) []).2.2 : Int), true)
  else ((3, lower (s.extract f (nameF s f)), [], false, ⟨#[]⟩), ((inF s (nameF s f) []).2.2 : Int), true)

/-- The tag at a place. -/
def tagF (s : ByteArray) (a : Int) : Tok × Int × Bool :=
  if (begF s a).1 = 0 then (zt, a, false) else wholeF s (begF s a).1 (begF s a).2

theorem bt_out {s : ByteArray} {p : Nat} (h : s.size ≤ p) : bt s p = 0 := by
  unfold bt
  rw [List.getD_eq_getElem?_getD, List.getElem?_eq_none (by rw [bytes_len]; exact h)]
  rfl

theorem let_lt {s : ByteArray} {p : Nat} (h : isLet (bt s p) = true) : p < s.size := by
  by_cases hp : p < s.size
  · exact hp
  · rw [bt_out (by omega)] at h
    exact absurd h (by decide)

theorem beg_is (s : ByteArray) (a : Int) : ((begF s a).1 = 0 ∧ (begF s a).2 = 0) ∨ (((begF s a).1 = 2 ∨ (begF s a).1 = 3) ∧ (begF s a).2 < s.size ∧ isLet (bt s (begF s a).2) = true ∧ 1 ≤ (begF s a).2) := by
  unfold begF
  by_cases h1 : 0 ≤ a ∧ a < s.size ∧ bt s a.toNat = 60
  · rw [if_pos h1]
    by_cases h2 : st s (a.toNat + 1) SL = true
    · rw [if_pos h2]
      by_cases h3 : isLet (bt s (a.toNat + 2)) = true
      · rw [if_pos h3]
        exact Or.inr ⟨Or.inr rfl, let_lt h3, h3, by show 1 ≤ a.toNat + 2; omega⟩
      · rw [if_neg h3]; exact Or.inl ⟨rfl, rfl⟩
    · rw [if_neg h2]
      by_cases h3 : isLet (bt s (a.toNat + 1)) = true
      · rw [if_pos h3]
        exact Or.inr ⟨Or.inl rfl, let_lt h3, h3, by show 1 ≤ a.toNat + 1; omega⟩
      · rw [if_neg h3]; exact Or.inl ⟨rfl, rfl⟩
  · rw [if_neg h1]; exact Or.inl ⟨rfl, rfl⟩

end Go.Proofs.YtgebdaanglmnnaaDoor
