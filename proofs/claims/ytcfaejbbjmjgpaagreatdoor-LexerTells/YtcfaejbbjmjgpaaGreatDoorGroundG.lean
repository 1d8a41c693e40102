/-
  Joined: Tags Attr Attrs Inside.
-/
import Derived.Test.YtcfaejbbjmjgpaaGreatDoorGroundE
import Derived.Test.YtcfaejbbjmjgpaaGreatDoorWhole
import Derived.Test.YtcfaejbbjmjgpaaGreatDoorBoxes

/-
  Tags by themselves: what an attribute is, what stands behind a tag's name, what a tag is. No program.
-/
namespace Go.Proofs.YtcfaejbbjmjgpaaGreatDoor
open Go.RowKit Utf
set_option linter.unusedVariables false

/-- What ends an attribute's name. -/
def NE : ByteArray := { data := #[9, 10, 12, 13, 32, 47, 62, 61] }
/-- What ends a bare value. -/
def VE : ByteArray := { data := #[9, 10, 12, 13, 32, 62] }
def EQ : ByteArray := { data := #[61] }
def SG : ByteArray := { data := #[47, 62] }
def SL : ByteArray := { data := #[47] }

/-- The next place where that byte stands. -/
def byF (s : ByteArray) (c : Int) (p : Nat) : Nat := fs (fun i => decide (bt s i = c)) p s.size

/-- A value, behind an equals sign and its Spaces: what it is, the place behind it, and 1; 2, if the tag ends there; 0, if it is cut off. -/
def vF (s : ByteArray) (p : Nat) : ByteArray × Nat × Int :=
  if p = s.size then (⟨#[]⟩, s.size, 0)
  else if bt s p = 62 then (⟨#[]⟩, p + 1, 2)
  else if bt s p = 34 ∨ bt s p = 39 then
    (if byF s (bt s p) (p + 1) = s.size then (⟨#[]⟩, s.size, 0) else (allF (s.extract (p + 1) (byF s (bt s p) (p + 1))) true 0, byF s (bt s p) (p + 1) + 1, 1))
  else if untilF s VE p = s.size then (⟨#[]⟩, s.size, 0)
  else (allF (s.extract p (untilF s VE p)) true 0, untilF s VE p, 1)

/-- An attribute: what it is, the place behind it, and 1; 2, if with it the tag ends; 0, if it is cut off. -/
def aF (s : ByteArray) (p : Nat) : Att × Nat × Int :=
  if untilF s NE (p + 1) = s.size then ((⟨#[]⟩, ⟨#[]⟩), s.size, 0)
  else if st s (skipF s (untilF s NE (p + 1))) EQ = false then ((lower (s.extract p (untilF s NE (p + 1))), ⟨#[]⟩), skipF s (untilF s NE (p + 1)), 1)
  else if (vF s (skipF s (skipF s (untilF s NE (p + 1)) + 1))).2.2 = 0 then ((⟨#[]⟩, ⟨#[]⟩), s.size, 0)
  else ((lower (s.extract p (untilF s NE (p + 1))), (vF s (skipF s (skipF s (untilF s NE (p + 1)) + 1))).1), (vF s (skipF s (skipF s (untilF s NE (p + 1)) + 1))).2)

theorem skip_is (s : ByteArray) {p : Nat} (h : p ≤ s.size) : Fs (fun i => !isSp (bt s i)) p s.size (skipF s p) := fs_is _ h
theorem until_is (s set : ByteArray) {p : Nat} (h : p ≤ s.size) : Fs (fun i => inS set (bt s i)) p s.size (untilF s set p) := fs_is _ h
theorem by_is (s : ByteArray) (c : Int) {p : Nat} (h : p ≤ s.size) : Fs (fun i => decide (bt s i = c)) p s.size (byF s c p) := fs_is _ h
theorem name_is (s : ByteArray) {p : Nat} (h : p ≤ s.size) : Fs (fun i => enN (bt s i)) p s.size (nameF s p) := fs_is _ h

theorem eq_is {s : ByteArray} {p : Nat} : st s p EQ = true ↔ p < s.size ∧ bt s p = 61 := by
  constructor
  · intro h
    exact ⟨st_le h, st_at h 0 (by decide)⟩
  · rintro ⟨h1, h2⟩
    refine st_true h1 fun j hj => ?_
    have hj1 : j < 1 := hj
    obtain rfl : j = 0 := by omega
    exact h2

theorem sg_is {s : ByteArray} {p : Nat} : st s p SG = true ↔ p + 1 < s.size ∧ bt s p = 47 ∧ bt s (p + 1) = 62 := by
  constructor
  · intro h
    exact ⟨st_le h, st_at h 0 (by decide), st_at h 1 (by decide)⟩
  · rintro ⟨h1, h2, h3⟩
    refine st_true h1 fun j hj => ?_
    have hj1 : j < 2 := hj
    rcases (show j = 0 ∨ j = 1 by omega) with rfl | rfl
    · exact h2
    · exact h3

theorem ve_gt : inS VE 62 = true := by
  unfold inS
  exact decide_eq_true ⟨5, by decide, by decide⟩

/-- A value goes on, and within the text. -/
theorem vF_goes {s : ByteArray} {p : Nat} (hp : p ≤ s.size) : p ≤ (vF s p).2.1 ∧ (vF s p).2.1 ≤ s.size ∧ ((vF s p).2.2 = 0 ∨ (vF s p).2.2 = 1 ∨ (vF s p).2.2 = 2) ∧ ((vF s p).2.2 = 0 → (vF s p).2.1 = s.size) := by
  unfold vF
  by_cases h1 : p = s.size
  · rw [if_pos h1]
    exact ⟨hp, Nat.le_refl _, Or.inl rfl, fun _ => rfl⟩
  rw [if_neg h1]
  by_cases h2 : bt s p = 62
  · rw [if_pos h2]
    exact ⟨Nat.le_succ _, by show p + 1 ≤ _; omega, Or.inr (Or.inr rfl), fun h => by cases h⟩
  rw [if_neg h2]
  by_cases h3 : bt s p = 34 ∨ bt s p = 39
  · rw [if_pos h3]
    have hb := by_is s (bt s p) (p := p + 1) (by omega)
    by_cases h4 : byF s (bt s p) (p + 1) = s.size
    · rw [if_pos h4]
      exact ⟨hp, Nat.le_refl _, Or.inl rfl, fun _ => rfl⟩
    · rw [if_neg h4]
      have := hb.lo
      have := hb.hi
      exact ⟨by show p ≤ _ + 1; omega, by show _ + 1 ≤ _; omega, Or.inr (Or.inl rfl), fun h => by cases h⟩
  · rw [if_neg h3]
    have hb := until_is s VE hp
    by_cases h4 : untilF s VE p = s.size
    · rw [if_pos h4]
      exact ⟨hp, Nat.le_refl _, Or.inl rfl, fun _ => rfl⟩
    · rw [if_neg h4]
      exact ⟨hb.lo, hb.hi, Or.inr (Or.inl rfl), fun h => by cases h⟩

/-- An attribute goes on, and within the text; one that is cut off is nothing. -/
theorem aF_goes {s : ByteArray} {p : Nat} (hp : p < s.size) : p < (aF s p).2.1 ∧ (aF s p).2.1 ≤ s.size ∧ ((aF s p).2.2 = 0 ∨ (aF s p).2.2 = 1 ∨ (aF s p).2.2 = 2) ∧ ((aF s p).2.2 = 0 → aF s p = ((⟨#[]⟩, ⟨#[]⟩), s.size, 0)) := by
  unfold aF
  have hu := until_is s NE (p := p + 1) hp
  generalize untilF s NE (p + 1) = e at hu ⊢
  by_cases h1 : e = s.size
  · rw [if_pos h1]
    exact ⟨hp, Nat.le_refl _, Or.inl rfl, fun _ => rfl⟩
  rw [if_neg h1]
  have hk := skip_is s (p := e) hu.hi
  generalize skipF s e = k at hk ⊢
  have l1 := hu.lo
  have l2 := hu.hi
  have l3 := hk.lo
  by_cases h2 : st s k EQ = false
  · rw [if_pos h2]
    exact ⟨by show p < k; omega, hk.hi, Or.inr (Or.inl rfl), fun h => by cases h⟩
  rw [if_neg h2]
  have h3 : k < s.size := (eq_is.1 (by simpa using h2)).1
  have hj := skip_is s (p := k + 1) h3
  generalize skipF s (k + 1) = j at hj ⊢
  have l4 := hj.lo
  obtain ⟨g1, g2, g3, g4⟩ := vF_goes (s := s) (p := j) hj.hi
  by_cases h4 : (vF s j).2.2 = 0
  · rw [if_pos h4]
    exact ⟨hp, Nat.le_refl _, Or.inl rfl, fun _ => rfl⟩
  · rw [if_neg h4]
    exact ⟨by show p < (vF s j).2.1; omega, g2, g3, fun h => absurd h h4⟩

/-- What stands behind a tag's name: its attributes, whether it has Self, and the place behind it; 0, if it is cut off. -/
def rF (s : ByteArray) : Nat → Nat → List Att → List Att × Bool × Nat
  | 0, _, _ => ([], false, 0)
  | n + 1, p, l =>
    if skipF s p = s.size then ([], false, 0)
    else if bt s (skipF s p) = 62 then (l, false, skipF s p + 1)
    else if st s (skipF s p) SG = true then (l, true, skipF s p + 2)
    else if bt s (skipF s p) = 47 then rF s n (skipF s p + 1) l
    else if (aF s (skipF s p)).2.2 = 0 then ([], false, 0)
    else if (aF s (skipF s p)).2.2 = 2 then (l ++ [(aF s (skipF s p)).1], false, (aF s (skipF s p)).2.1)
    else rF s n (aF s (skipF s p)).2.1 (l ++ [(aF s (skipF s p)).1])

theorem rF_same (s : ByteArray) : ∀ (n m p : Nat) (l : List Att), p ≤ s.size → s.size + 1 - p ≤ n → s.size + 1 - p ≤ m → rF s n p l = rF s m p l
  | 0, _, p, l, hp, hn, _ => by omega
  | _, 0, p, l, hp, _, hm => by omega
  | n + 1, m + 1, p, l, hp, hn, hm => by
    have hk := skip_is s hp
    have l1 := hk.lo
    have l2 := hk.hi
    unfold rF
    by_cases h1 : skipF s p = s.size
    · rw [if_pos h1, if_pos h1]
    rw [if_neg h1, if_neg h1, rF_same s n m (skipF s p + 1) l (by omega) (by omega) (by omega)]
    obtain ⟨g1, g2, _⟩ := aF_goes (s := s) (p := skipF s p) (by omega)
    rw [rF_same s n m (aF s (skipF s p)).2.1 _ g2 (by omega) (by omega)]

def inF (s : ByteArray) (p : Nat) (l : List Att) : List Att × Bool × Nat := rF s (s.size + 1 - p) p l

/-- One round, the place behind the Spaces known. -/
theorem in_step {s : ByteArray} {p q : Nat} (hp : p ≤ s.size) (hq : skipF s p = q) (l : List Att) : inF s p l =
    if q = s.size then ([], false, 0)
    else if bt s q = 62 then (l, false, q + 1)
    else if st s q SG = true then (l, true, q + 2)
    else if bt s q = 47 then inF s (q + 1) l
    else if (aF s q).2.2 = 0 then ([], false, 0)
    else if (aF s q).2.2 = 2 then (l ++ [(aF s q).1], false, (aF s q).2.1)
    else inF s (aF s q).2.1 (l ++ [(aF s q).1]) := by
  have hk := skip_is s hp
  rw [hq] at hk
  have l1 := hk.lo
  have l2 := hk.hi
  unfold inF
  rw [show s.size + 1 - p = (s.size - p) + 1 by omega]
  conv => lhs; unfold rF
  rw [hq]
  by_cases h1 : q = s.size
  · rw [if_pos h1, if_pos h1]
  rw [if_neg h1, if_neg h1]
  obtain ⟨g1, g2, _⟩ := aF_goes (s := s) (p := q) (by omega)
  rw [rF_same s (s.size - p) (s.size + 1 - (q + 1)) (q + 1) l (by omega) (by omega) (by omega), rF_same s (s.size - p) (s.size + 1 - (aF s q).2.1) (aF s q).2.1 _ g2 (by omega) (by omega)]

theorem rF_len (s : ByteArray) : ∀ (n p : Nat) (l : List Att), p ≤ s.size → l.length ≤ p → (rF s n p l).1.length ≤ s.size
  | 0, p, l, hp, hl => Nat.zero_le _
  | n + 1, p, l, hp, hl => by
    have hk := skip_is s hp
    have l1 := hk.lo
    have l2 := hk.hi
    unfold rF
    by_cases h1 : skipF s p = s.size
    · rw [if_pos h1]; exact Nat.zero_le _
    rw [if_neg h1]
    split
    · show l.length ≤ _; omega
    split
    · show l.length ≤ _; omega
    split
    · exact rF_len s n _ l (by omega) (by omega)
    obtain ⟨g1, g2, _⟩ := aF_goes (s := s) (p := skipF s p) (by omega)
    split
    · exact Nat.zero_le _
    split
    · show (l ++ [_]).length ≤ _; rw [List.length_append, List.length_singleton]; omega
    · exact rF_len s n _ _ g2 (by rw [List.length_append, List.length_singleton]; omega)

/-- Which kind of tag begins there, and where its name does; 0 of none. -/
def begF (s : ByteArray) (a : Int) : Int × Nat :=
  if 0 ≤ a ∧ a < s.size ∧ bt s a.toNat = 60 then
    (if st s (a.toNat + 1) SL = true then (if isLet (bt s (a.toNat + 2)) = true then (3, a.toNat + 2) else (0, 0))
    else if isLet (bt s (a.toNat + 1)) = true then (2, a.toNat + 1) else (0, 0))
  else (0, 0)

/-- A token that is nothing. -/
def zt : Tok := (0, ⟨#[]⟩, [], false, ⟨#[]⟩)

/-- A tag whose name begins at f. -/
def wholeF (s : ByteArray) (k : Int) (f : Nat) : Tok × Int × Bool :=
  if (inF s (nameF s f) []).2.2 = 0 then (zt, (s.size : Int), false)
  else if k = 2 then ((2, lower (s.extract f (nameF s f)), uniq (inF s (nameF s f) []).1, (inF s (nameF s f) []).2.1, ⟨#[]⟩), ((inF s (nameF s f) []).2.2 : Int), true)
  else ((3, lower (s.extract f (nameF s f)), [], false, ⟨#[]⟩), ((inF s (nameF s f) []).2.2 : Int), true)

/-- The tag at a place. -/
def tagF (s : ByteArray) (a : Int) : Tok × Int × Bool :=
  if (begF s a).1 = 0 then (zt, a, false) else wholeF s (begF s a).1 (begF s a).2

theorem bt_out {s : ByteArray} {p : Nat} (h : s.size ≤ p) : bt s p = 0 := by
  unfold bt
  rw [List.getD_eq_getElem?_getD, List.getElem?_eq_none (by rw [bytes_len]; exact h)]
  rfl

theorem let_lt {s : ByteArray} {p : Nat} (h : isLet (bt s p) = true) : p < s.size := by
  by_cases hp : p < s.size
  · exact hp
  · rw [bt_out (by omega)] at h
    exact absurd h (by decide)

theorem beg_is (s : ByteArray) (a : Int) : ((begF s a).1 = 0 ∧ (begF s a).2 = 0) ∨ (((begF s a).1 = 2 ∨ (begF s a).1 = 3) ∧ (begF s a).2 < s.size ∧ isLet (bt s (begF s a).2) = true ∧ 1 ≤ (begF s a).2) := by
  unfold begF
  by_cases h1 : 0 ≤ a ∧ a < s.size ∧ bt s a.toNat = 60
  · rw [if_pos h1]
    by_cases h2 : st s (a.toNat + 1) SL = true
    · rw [if_pos h2]
      by_cases h3 : isLet (bt s (a.toNat + 2)) = true
      · rw [if_pos h3]
        exact Or.inr ⟨Or.inr rfl, let_lt h3, h3, by show 1 ≤ a.toNat + 2; omega⟩
      · rw [if_neg h3]; exact Or.inl ⟨rfl, rfl⟩
    · rw [if_neg h2]
      by_cases h3 : isLet (bt s (a.toNat + 1)) = true
      · rw [if_pos h3]
        exact Or.inr ⟨Or.inl rfl, let_lt h3, h3, by show 1 ≤ a.toNat + 1; omega⟩
      · rw [if_neg h3]; exact Or.inl ⟨rfl, rfl⟩
  · rw [if_neg h1]; exact Or.inl ⟨rfl, rfl⟩

end Go.Proofs.YtcfaejbbjmjgpaaGreatDoor

/-
  The program's value, of any text.
-/
namespace Go.Proofs.YtcfaejbbjmjgpaaGreatDoor
open Go.RowKit Utf
set_option linter.unusedVariables false

/-- One byte there. -/
theorem st_byte (s : ByteArray) (p : Nat) (c : UInt8) : st s p ⟨#[c]⟩ = decide (p < s.size ∧ bt s p = (c.toNat : Int)) := by
  have hb : bt ⟨#[c]⟩ 0 = (c.toNat : Int) := bt_at ⟨#[c]⟩ 0 (Nat.zero_lt_one)
  rw [Bool.eq_iff_iff, decide_eq_true_eq]
  constructor
  · intro h
    exact ⟨st_le h, by rw [← hb]; exact st_at h 0 (Nat.zero_lt_one)⟩
  · rintro ⟨h1, h2⟩
    refine st_true h1 fun j hj => ?_
    have hj1 : j < 1 := hj
    obtain rfl : j = 0 := by omega
    rw [hb]
    exact h2

theorem in_byte {s : ByteArray} {p : Nat} (hp : p < s.size) (x : Int) : inS (s.extract p (p + 1)) x = decide (x = bt s p) := by
  unfold inS
  have hz : (s.extract p (p + 1)).size = 1 := by rw [ByteArray.size_extract]; omega
  have hb := bt_cut s p (p + 1) 0 (by omega) (by omega)
  rw [Nat.add_zero] at hb
  rw [decide_eq_decide, hz]
  constructor
  · rintro ⟨j, hj, h⟩
    obtain rfl : j = 0 := by omega
    rw [← h, hb]
    rfl
  · rintro rfl
    exact ⟨0, by omega, hb⟩

theorem until_by {s : ByteArray} {p : Nat} (hp : p < s.size) (q : Nat) : untilF s (s.extract p (p + 1)) q = byF s (bt s p) q := fs_congr (fun i => in_byte hp _) _ _

theorem find_by {s : ByteArray} {p : Nat} (hp : p < s.size) {q : Nat} (hq : q ≤ s.size) : findF s (s.extract p (p + 1)) q = byF s (bt s p) q := by
  have hz : (s.extract p (p + 1)).size = 1 := by rw [ByteArray.size_extract]; omega
  have hb := bt_cut s p (p + 1) 0 (by omega) (by omega)
  rw [Nat.add_zero] at hb
  have h := by_is s (bt s p) hq
  refine fs_eq ⟨h.lo, h.hi, fun j h1 h2 => ?_, fun hl => ?_⟩
  · refine st_not 0 (by omega) (fun e => ?_)
    rw [Nat.add_zero, hb] at e
    exact of_decide_eq_false (h.no j h1 h2) e
  · refine st_true (by omega) fun j hj => ?_
    obtain rfl : j = 0 := by omega
    rw [Nat.add_zero, hb]
    exact of_decide_eq_true (h.at' hl)

theorem cut_le (s : ByteArray) (p q : Nat) : (s.extract p q).size ≤ s.size := by rw [ByteArray.size_extract]; omega

/-- What a value is, behind a quote. -/
theorem vF_quote {s : ByteArray} {p : Nat} (hp : p < s.size) (h : bt s p = 34 ∨ bt s p = 39) : vF s p = if byF s (bt s p) (p + 1) = s.size then (⟨#[]⟩, s.size, 0) else (allF (s.extract (p + 1) (byF s (bt s p) (p + 1))) true 0, byF s (bt s p) (p + 1) + 1, 1) := by
  unfold vF
  rw [if_neg (by omega), if_neg (by rcases h with h | h <;> rw [h] <;> decide), if_pos h]
theorem vF_gt {s : ByteArray} {p : Nat} (hp : p < s.size) (h : bt s p = 62) : vF s p = (⟨#[]⟩, p + 1, 2) := by
  unfold vF
  rw [if_neg (by omega), if_pos h]
theorem vF_bare {s : ByteArray} {p : Nat} (hp : p ≤ s.size) (h1 : ¬ (p < s.size ∧ bt s p = 62)) (h2 : ¬ (p < s.size ∧ bt s p = 34)) (h3 : ¬ (p < s.size ∧ bt s p = 39)) : vF s p = if untilF s VE p = s.size then (⟨#[]⟩, s.size, 0) else (allF (s.extract p (untilF s VE p)) true 0, untilF s VE p, 1) := by
  unfold vF
  by_cases h : p = s.size
  · have := until_is s VE hp
    have := this.lo
    have := (until_is s VE hp).hi
    rw [if_pos h, if_pos (by omega)]
  · rw [if_neg h, if_neg (fun e => h1 ⟨by omega, e⟩), if_neg (fun e => e.elim (fun e => h2 ⟨by omega, e⟩) (fun e => h3 ⟨by omega, e⟩))]

set_option maxHeartbeats 1000000 in
set_option maxRecDepth 100000 in
theorem value_any (w : World) (hn : Nm w) (hi : In w) (s : ByteArray) (p : Nat) (hp : p ≤ s.size) (hs : s.size ≤ 20000) : Calls Tryz.prog 105 #[.string s, .int .i64 (p : Int)] w fun e w' => e = .returned (.tuple #[.string (vF s p).1, .int .i64 ((vF s p).2.1 : Int), .int .i64 (vF s p).2.2]) ∧ Kp [] w w' := by
  have H1 := fun W => starts_any W s (p : Int) ⟨#[62]⟩ (by omega)
  have H2 := fun W => starts_any W s (p : Int) ⟨#[34]⟩ (by omega)
  have H3 := fun W => starts_any W s (p : Int) ⟨#[39]⟩ (by omega)
  rw [pl_of hp, st_byte] at H1 H2 H3
  rw [show (((62 : UInt8).toNat : Nat) : Int) = 62 from rfl] at H1
  rw [show (((34 : UInt8).toNat : Nat) : Int) = 34 from rfl] at H2
  rw [show (((39 : UInt8).toNat : Nat) : Int) = 39 from rfl] at H3
  by_cases h1 : p < s.size ∧ bt s p = 62
  · rw [decide_eq_true h1] at H1
    rw [vF_gt h1.1 h1.2]
    clear h1 H2 H3 hn hi
    go_enter Tryz.func105, Tryz.ntmps105
    go_wp2_with fail
    refine (H1 _).mono ?_
    rintro e w1 ⟨rfl, k1⟩
    clear H1
    go_wp2
    go_ret3
    exact ⟨rfl, k1⟩
  rw [decide_eq_false h1] at H1
  by_cases hq : p < s.size ∧ (bt s p = 34 ∨ bt s p = 39)
  · obtain ⟨hlt, h3⟩ := hq
    rw [vF_quote hlt h3]
    have HU := fun W => until_any W s ((p + 1 : Nat) : Int) (s.extract p (p + 1)) (by omega) (by have := cut_le s p (p + 1); omega)
    rw [pl_of (by omega), until_by hlt] at HU
    have hb := by_is s (bt s p) (p := p + 1) (by omega)
    push_cast at HU
    generalize byF s (bt s p) (p + 1) = r at HU hb ⊢
    have HA := fun W (kk : Kp [] w W) => all_any W (hn.kept kk) (hi.kept kk) (s.extract (p + 1) r) true (by have := cut_le s (p + 1) r; omega)
    have l1 := hb.lo
    have l2 := hb.hi
    clear hb hn hi h1
    generalize allF (s.extract (p + 1) r) true 0 = A at HA ⊢
    have hc : (decide (p < s.size ∧ bt s p = 34) = true) ∨ (decide (p < s.size ∧ bt s p = 34) = false ∧ decide (p < s.size ∧ bt s p = 39) = true) := by
      rcases h3 with h | h
      · exact Or.inl (decide_eq_true ⟨hlt, h⟩)
      · exact Or.inr ⟨decide_eq_false (fun x => by rw [h] at x; exact absurd x.2 (by decide)), decide_eq_true ⟨hlt, h⟩⟩
    clear h3
    by_cases hr : r = s.size
    · rw [if_pos hr]
      subst hr
      clear HA
      rcases hc with e1 | ⟨e1, e2⟩
      · rw [e1] at H2
        clear e1 H3
        go_enter Tryz.func105, Tryz.ntmps105
        go_wp2_with fail
        refine (H1 _).mono ?_
        rintro e w1 ⟨rfl, k1⟩
        clear H1 
        go_wp2_with fail
        refine (from_back (H2 _) k1).mono ?_
        rintro e w2 ⟨rfl, k2⟩
        clear H2 k1
        go_wp2_with fail
        go_quiet (fail)
        go_wp2_with fail
        refine (from_back (HU _) (k2.drewN _)).mono ?_
        rintro e w3 ⟨rfl, k3⟩
        clear HU k2
        go_wp2
        go_ret3
        exact ⟨rfl, k3⟩
      · rw [e1] at H2
        rw [e2] at H3
        clear e1 e2
        go_enter Tryz.func105, Tryz.ntmps105
        go_wp2_with fail
        refine (H1 _).mono ?_
        rintro e w1 ⟨rfl, k1⟩
        clear H1 
        go_wp2_with fail
        refine (from_back (H2 _) k1).mono ?_
        rintro e w2 ⟨rfl, k2⟩
        clear H2 k1
        go_wp2_with fail
        refine (from_back (H3 _) k2).mono ?_
        rintro e w3 ⟨rfl, k3⟩
        clear H3 k2
        go_wp2_with fail
        go_quiet (fail)
        go_wp2_with fail
        refine (from_back (HU _) (k3.drewN _)).mono ?_
        rintro e w4 ⟨rfl, k4⟩
        clear HU k3
        go_wp2
        go_ret3
        exact ⟨rfl, k4⟩
    · rw [if_neg hr]
      have hr2 : ((r : Int) == (s.size : Int)) = false := by simp only [beq_eq_false_iff_ne, ne_eq]; omega
      push_cast
      clear hr
      rcases hc with e1 | ⟨e1, e2⟩
      · rw [e1] at H2
        clear e1 H3
        go_enter Tryz.func105, Tryz.ntmps105
        go_wp2_with fail
        refine (H1 _).mono ?_
        rintro e w1 ⟨rfl, k1⟩
        clear H1 
        go_wp2_with fail
        refine (from_back (H2 _) k1).mono ?_
        rintro e w2 ⟨rfl, k2⟩
        clear H2 k1
        go_wp2_with fail
        go_quiet (fail)
        go_wp2_with fail
        refine (from_back (HU _) (k2.drewN _)).mono ?_
        rintro e w3 ⟨rfl, k3⟩
        clear HU k2
        go_wp2_with fail
        refine (from_back (HA _ k3) k3).mono ?_
        rintro e w4 ⟨rfl, k4⟩
        clear HA k3
        go_wp2
        go_ret3
        exact ⟨rfl, k4⟩
      · rw [e1] at H2
        rw [e2] at H3
        clear e1 e2
        go_enter Tryz.func105, Tryz.ntmps105
        go_wp2_with fail
        refine (H1 _).mono ?_
        rintro e w1 ⟨rfl, k1⟩
        clear H1 
        go_wp2_with fail
        refine (from_back (H2 _) k1).mono ?_
        rintro e w2 ⟨rfl, k2⟩
        clear H2 k1
        go_wp2_with fail
        refine (from_back (H3 _) k2).mono ?_
        rintro e w3 ⟨rfl, k3⟩
        clear H3 k2
        go_wp2_with fail
        go_quiet (fail)
        go_wp2_with fail
        refine (from_back (HU _) (k3.drewN _)).mono ?_
        rintro e w4 ⟨rfl, k4⟩
        clear HU k3
        go_wp2_with fail
        refine (from_back (HA _ k4) k4).mono ?_
        rintro e w5 ⟨rfl, k5⟩
        clear HA k4
        go_wp2
        go_ret3
        exact ⟨rfl, k5⟩
  · have h2 : ¬ (p < s.size ∧ bt s p = 34) := fun e => hq ⟨e.1, Or.inl e.2⟩
    have h3 : ¬ (p < s.size ∧ bt s p = 39) := fun e => hq ⟨e.1, Or.inr e.2⟩
    rw [vF_bare hp h1 h2 h3]
    rw [decide_eq_false h2] at H2
    rw [decide_eq_false h3] at H3
    have HU := fun W => until_any W s (p : Int) VE (by omega) (by decide)
    rw [pl_of hp] at HU
    have hb := until_is s VE hp
    generalize untilF s VE p = r at HU hb ⊢
    have HA := fun W (kk : Kp [] w W) => all_any W (hn.kept kk) (hi.kept kk) (s.extract p r) true (by have := cut_le s p r; omega)
    have l1 := hb.lo
    have l2 := hb.hi
    clear hb hn hi h1 h2 h3 hq
    generalize allF (s.extract p r) true 0 = A at HA ⊢
    by_cases hr : r = s.size
    · rw [if_pos hr]
      subst hr
      clear HA
      go_enter Tryz.func105, Tryz.ntmps105
      go_wp2_with fail
      refine (H1 _).mono ?_
      rintro e w1 ⟨rfl, k1⟩
      clear H1 
      go_wp2_with fail
      refine (from_back (H2 _) k1).mono ?_
      rintro e w2 ⟨rfl, k2⟩
      clear H2 k1
      go_wp2_with fail
      refine (from_back (H3 _) k2).mono ?_
      rintro e w3 ⟨rfl, k3⟩
      clear H3 k2
      go_wp2_with fail
      refine (from_back (HU _) k3).mono ?_
      rintro e w4 ⟨rfl, k4⟩
      clear HU k3
      go_wp2
      go_ret3
      exact ⟨rfl, k4⟩
    · rw [if_neg hr]
      have hr2 : ((r : Int) == (s.size : Int)) = false := by simp only [beq_eq_false_iff_ne, ne_eq]; omega
      clear hr
      go_enter Tryz.func105, Tryz.ntmps105
      go_wp2_with fail
      refine (H1 _).mono ?_
      rintro e w1 ⟨rfl, k1⟩
      clear H1 
      go_wp2_with fail
      refine (from_back (H2 _) k1).mono ?_
      rintro e w2 ⟨rfl, k2⟩
      clear H2 k1
      go_wp2_with fail
      refine (from_back (H3 _) k2).mono ?_
      rintro e w3 ⟨rfl, k3⟩
      clear H3 k2
      go_wp2_with fail
      refine (from_back (HU _) k3).mono ?_
      rintro e w4 ⟨rfl, k4⟩
      clear HU k3
      go_wp2_with fail
      refine (from_back (HA _ k4) k4).mono ?_
      rintro e w5 ⟨rfl, k5⟩
      clear HA k4
      go_wp2
      go_ret3
      exact ⟨rfl, k5⟩

end Go.Proofs.YtcfaejbbjmjgpaaGreatDoor

/-
  The program's Attr, of any text.
-/
namespace Go.Proofs.YtcfaejbbjmjgpaaGreatDoor
open Go.RowKit Utf
set_option linter.unusedVariables false

/-- The result's block and the attribute's own one. -/
structure Two (w W : World) (g0 g8 : Nat) (x y : ByteArray) : Prop where
  kp : Kp [] w W
  r : At W g0 #[.string ⟨#[]⟩, .string ⟨#[]⟩] 73
  a : At W g8 #[.string x, .string y] 73
  ne : g0 ≠ g8
  n0 : w.heap.size ≤ g0
  n8 : w.heap.size ≤ g8

theorem Two.kept {w W W' : World} {g0 g8 : Nat} {x y : ByteArray} (h : Two w W g0 g8 x y) (k : Kp [] W W') : Two w W' g0 g8 x y :=
  ⟨h.kp.trans k (fun z hz => by simp at hz), h.r.kept k (by simp), h.a.kept k (by simp), h.ne, h.n0, h.n8⟩
theorem Two.set {w W : World} {g0 g8 : Nat} {x y : ByteArray} (h : Two w W g0 g8 x y) (v : ByteArray) : Two w (W.setCell ⟨g8, 1, none⟩ (.string v)) g0 g8 x v :=
  ⟨h.kp.setCell (Or.inr h.n8) _, h.r.other (fun e => h.ne e.symm) _ _, h.a.set 1 _, h.ne, h.n0, h.n8⟩
theorem Two.new {w w2 : World} (k : Kp [] w w2) (r : At w2 w.heap.size #[.string ⟨#[]⟩, .string ⟨#[]⟩] 73) (x : ByteArray) : Two w (w2.alloc (.cells #[.string x, .string ⟨#[]⟩] 73)) w.heap.size w2.heap.size x ⟨#[]⟩ :=
  ⟨k.alloc _, r.kept ((Kp.refl [] _).alloc _) (by simp), At.new _ _ _, by have := r.lt; omega, Nat.le_refl _, k.size⟩
/-- What is read and written there. -/
theorem Two.facts {w W : World} {g0 g8 : Nat} {x y : ByteArray} (h : Two w W g0 g8 x y) : W.cell? ⟨g8, 0, none⟩ = some (.string x) ∧ W.cell? ⟨g8, 1, none⟩ = some (.string y) ∧ W.frozen? ⟨g8, 1, none⟩ = false ∧
    W.cell? ⟨g0, 0, none⟩ = some (.string ⟨#[]⟩) ∧ W.cell? ⟨g0, 1, none⟩ = some (.string ⟨#[]⟩) ∧ W.frozen? ⟨g0, 0, none⟩ = false ∧ W.frozen? ⟨g0, 1, none⟩ = false :=
  ⟨h.a.cell 0, h.a.cell 1, h.a.free 1, h.r.cell 0, h.r.cell 1, h.r.free 0, h.r.free 1⟩
/-- Once the result is laid. -/
theorem Two.laid {w W : World} {g0 g8 : Nat} {x y : ByteArray} (h : Two w W g0 g8 x y) (p q : ByteArray) : ((W.setCell ⟨g0, 0, none⟩ (.string p)).setCell ⟨g0, 1, none⟩ (.string q)).cell? ⟨g0, 0, none⟩ = some (.string p) ∧ ((W.setCell ⟨g0, 0, none⟩ (.string p)).setCell ⟨g0, 1, none⟩ (.string q)).cell? ⟨g0, 1, none⟩ = some (.string q) ∧ Kp [] w ((W.setCell ⟨g0, 0, none⟩ (.string p)).setCell ⟨g0, 1, none⟩ (.string q)) :=
  ⟨((h.r.set 0 _).set 1 _).cell 0, ((h.r.set 0 _).set 1 _).cell 1, (h.kp.setCell (Or.inr h.n0) _).setCell (Or.inr h.n0) _⟩

set_option maxHeartbeats 1000000 in
set_option maxRecDepth 100000 in
theorem attr_any (w : World) (hn : Nm w) (hi : In w) (s : ByteArray) (p : Nat) (hp : p < s.size) (hs : s.size ≤ 20000) : Calls Tryz.prog 97 #[.string s, .int .i64 (p : Int)] w fun e w' => e = .returned (.tuple #[av (aF s p).1, .int .i64 ((aF s p).2.1 : Int), .int .i64 (aF s p).2.2]) ∧ Kp [] w w' := by
  have k0 : Kp [] w (w.alloc (.cells #[.string ⟨#[]⟩, .string ⟨#[]⟩] 73)) := (Kp.refl _ _).alloc _
  have A0 := At.new w #[.string ⟨#[]⟩, .string ⟨#[]⟩] 73
  have HU := fun W => until_any W s ((p + 1 : Nat) : Int) NE (by omega) (by decide)
  rw [pl_of (by omega)] at HU
  push_cast at HU
  have hu := until_is s NE (p := p + 1) (by omega)
  obtain ⟨V, hV⟩ : ∃ V, aF s p = V := ⟨_, rfl⟩
  rw [hV]
  unfold aF at hV
  generalize untilF s NE (p + 1) = u at HU hu hV
  have l1 := hu.lo
  have l2 := hu.hi
  clear hu
  by_cases h1 : u = s.size
  · rw [if_pos h1] at hV
    subst h1
    subst hV
    clear hn hi
    go_enter Tryz.func97, Tryz.ntmps97
    go_wp2_with fail
    refine (HU _).mono ?_
    rintro e w1 ⟨rfl, k1⟩
    have A1 := A0.kept k1 (by simp)
    have k2 := k0.trans k1 (fun z hz => by simp at hz)
    have k3 := (k2.setCell (p := ⟨w.heap.size, 0, none⟩) (Or.inr (Nat.le_refl _)) (.string ⟨#[]⟩)).setCell (p := ⟨w.heap.size, 1, none⟩) (Or.inr (Nat.le_refl _)) (.string ⟨#[]⟩)
    have A2 := (A1.set 0 (.string ⟨#[]⟩)).set 1 (.string ⟨#[]⟩)
    have c0 := A1.cell 0
    have c1 := A1.cell 1
    have f0 := A1.free 0
    have f1 := A1.free 1
    simp at c0 c1
    clear HU k0 A0 k1 A1 k2
    go_wp2
    have d0 := A2.cell 0
    have d1 := A2.cell 1
    simp at d0 d1
    refine bodyPost_ret (v := .tuple #[.agg #[.string ⟨#[]⟩, .string ⟨#[]⟩], .int .i64 (s.size : Int), .int .i64 0]) (by simp [results, go_sem, d0, d1]) rfl ⟨rfl, k3⟩
  rw [if_neg h1] at hV
  have h2 : ((u : Int) == (s.size : Int)) = false := by simp only [beq_eq_false_iff_ne, ne_eq]; omega
  have HL := fun W => lower_any W (s.extract p u) (by have := cut_le s p u; omega)
  generalize lower (s.extract p u) = nm at HL hV
  have HK := fun W => skip_any W s (u : Int) (by omega)
  rw [pl_of l2] at HK
  have hk := skip_is s (p := u) l2
  generalize skipF s u = k at HK hk hV
  have l3 := hk.lo
  have l4 := hk.hi
  clear hk h1
  have HE := fun W => starts_any W s (k : Int) ⟨#[61]⟩ (by omega)
  rw [pl_of l4, show st s k ⟨#[61]⟩ = st s k EQ from rfl] at HE
  cases h3 : st s k EQ with
  | false =>
    rw [if_pos h3] at hV
    subst hV
    rw [h3] at HE
    clear hn hi h3
    go_enter Tryz.func97, Tryz.ntmps97
    go_wp2_with fail
    refine (HU _).mono ?_
    rintro e w1 ⟨rfl, k1⟩
    have A1 := A0.kept k1 (by simp)
    have k2 := k0.trans k1 (fun z hz => by simp at hz)
    clear HU k0 A0 k1
    go_wp2_with fail
    refine (HL _).mono ?_
    rintro e w2 ⟨rfl, k3⟩
    have T1 := Two.new (k2.trans k3 (fun z hz => by simp at hz)) (A1.kept k3 (by simp)) nm
    clear HL A1 k2 k3
    go_wp2_with fail
    refine (HK _).mono ?_
    rintro e w3 ⟨rfl, rfl⟩
    clear HK
    generalize w2.alloc (.cells #[.string nm, .string ⟨#[]⟩] 73) = W at T1
    generalize w2.heap.size = g8 at T1
    go_wp2_with fail
    refine (HE _).mono ?_
    rintro e w3 ⟨rfl, k3⟩
    have T2 := T1.kept k3
    clear HE k3 T1
    obtain ⟨c0, c1, c2, c3, c4, c5, c6⟩ := T2.facts
    obtain ⟨d0, d1, kz⟩ := T2.laid nm ⟨#[]⟩
    clear T2
    generalize w.heap.size = g0 at c3 c4 c5 c6 d0 d1 kz
    go_wp2
    refine bodyPost_ret (v := .tuple #[.agg #[.string nm, .string ⟨#[]⟩], .int .i64 (k : Int), .int .i64 1]) (by simp [results, go_sem, d0, d1]) rfl ⟨rfl, kz⟩
  | true =>
    rw [if_neg (by rw [h3]; simp)] at hV
    rw [h3] at HE
    obtain ⟨l5, _⟩ := eq_is.1 h3
    have HJ := fun W => skip_any W s ((k + 1 : Nat) : Int) (by omega)
    rw [pl_of (by omega)] at HJ
    push_cast at HJ
    have hj := skip_is s (p := k + 1) l5
    generalize skipF s (k + 1) = j at HJ hj hV
    have l6 := hj.lo
    have l7 := hj.hi
    have HV := fun W (kk : Kp [] w W) => value_any W (hn.kept kk) (hi.kept kk) s j l7 hs
    obtain ⟨_, _, g3, g4⟩ := vF_goes (s := s) (p := j) l7
    generalize vF s j = T at HV g3 g4 hV
    obtain ⟨tx, tn, th⟩ := T
    simp only at HV g3 g4 hV
    clear hj hn hi h3
    by_cases h5 : th = 0
    · rw [if_pos h5] at hV
      subst hV
      obtain rfl := g4 h5
      subst h5
      go_enter Tryz.func97, Tryz.ntmps97
      go_wp2_with fail
      refine (HU _).mono ?_
      rintro e w1 ⟨rfl, k1⟩
      have A1 := A0.kept k1 (by simp)
      have k2 := k0.trans k1 (fun z hz => by simp at hz)
      clear HU k0 A0 k1
      go_wp2_with fail
      refine (HL _).mono ?_
      rintro e w2 ⟨rfl, k3⟩
      have T1 := Two.new (k2.trans k3 (fun z hz => by simp at hz)) (A1.kept k3 (by simp)) nm
      clear HL A1 k2 k3
      go_wp2_with fail
      refine (HK _).mono ?_
      rintro e w3 ⟨rfl, rfl⟩
      clear HK
      generalize w2.alloc (.cells #[.string nm, .string ⟨#[]⟩] 73) = W at T1
      generalize w2.heap.size = g8 at T1
      go_wp2_with fail
      refine (HE _).mono ?_
      rintro e w3 ⟨rfl, k3⟩
      have T2 := T1.kept k3
      clear HE k3 T1
      go_wp2_with fail
      refine (HJ _).mono ?_
      rintro e w4 ⟨rfl, rfl⟩
      clear HJ
      go_wp2_with fail
      refine (HV _ T2.kp).mono ?_
      rintro e w5 ⟨rfl, k5⟩
      have T3 := T2.kept k5
      clear HV k5 T2
      obtain ⟨c0, c1, c2, c3, c4, c5, c6⟩ := T3.facts
      obtain ⟨d0, d1, kz⟩ := T3.laid ⟨#[]⟩ ⟨#[]⟩
      clear T3
      generalize w.heap.size = g0 at c3 c4 c5 c6 d0 d1 kz
      go_wp2
      refine bodyPost_ret (v := .tuple #[.agg #[.string ⟨#[]⟩, .string ⟨#[]⟩], .int .i64 (s.size : Int), .int .i64 0]) (by simp [results, go_sem, d0, d1]) rfl ⟨rfl, kz⟩
    · rw [if_neg h5] at hV
      subst hV
      have h6 : (th == 0) = false := by simpa using h5
      clear g3 g4 h5
      go_enter Tryz.func97, Tryz.ntmps97
      go_wp2_with fail
      refine (HU _).mono ?_
      rintro e w1 ⟨rfl, k1⟩
      have A1 := A0.kept k1 (by simp)
      have k2 := k0.trans k1 (fun z hz => by simp at hz)
      clear HU k0 A0 k1
      go_wp2_with fail
      refine (HL _).mono ?_
      rintro e w2 ⟨rfl, k3⟩
      have T1 := Two.new (k2.trans k3 (fun z hz => by simp at hz)) (A1.kept k3 (by simp)) nm
      clear HL A1 k2 k3
      go_wp2_with fail
      refine (HK _).mono ?_
      rintro e w3 ⟨rfl, rfl⟩
      clear HK
      generalize w2.alloc (.cells #[.string nm, .string ⟨#[]⟩] 73) = W at T1
      generalize w2.heap.size = g8 at T1
      go_wp2_with fail
      refine (HE _).mono ?_
      rintro e w3 ⟨rfl, k3⟩
      have T2 := T1.kept k3
      clear HE k3 T1
      go_wp2_with fail
      refine (HJ _).mono ?_
      rintro e w4 ⟨rfl, rfl⟩
      clear HJ
      go_wp2_with fail
      refine (HV _ T2.kp).mono ?_
      rintro e w5 ⟨rfl, k5⟩
      have T3 := T2.kept k5
      clear HV k5 T2
      have T4 := T3.set tx
      obtain ⟨_, b1, b2, _, _, _, _⟩ := T3.facts
      obtain ⟨c0, c1, c2, c3, c4, c5, c6⟩ := T4.facts
      obtain ⟨d0, d1, kz⟩ := T4.laid nm tx
      clear T3 T4
      generalize w.heap.size = g0 at c3 c4 c5 c6 d0 d1 kz
      go_wp2
      refine bodyPost_ret (v := .tuple #[.agg #[.string nm, .string tx], .int .i64 (tn : Int), .int .i64 th]) (by simp [results, go_sem, d0, d1]) rfl ⟨rfl, kz⟩

end Go.Proofs.YtcfaejbbjmjgpaaGreatDoor

/-
  The program's begin and inside, of any text.
-/
namespace Go.Proofs.YtcfaejbbjmjgpaaGreatDoor
open Go.RowKit Utf
set_option linter.unusedVariables false

theorem beg_no {s : ByteArray} {a : Int} (h : ¬ (0 ≤ a ∧ a < s.size ∧ bt s a.toNat = 60)) : begF s a = (0, 0) := by unfold begF; rw [if_neg h]
theorem beg_end {s : ByteArray} {p : Nat} (h1 : p < s.size) (h2 : bt s p = 60) (h3 : st s (p + 1) SL = true) : begF s (p : Int) = if isLet (bt s (p + 2)) = true then (3, p + 2) else (0, 0) := by
  unfold begF
  rw [Int.toNat_natCast, if_pos ⟨by omega, by omega, h2⟩, if_pos h3]
theorem beg_start {s : ByteArray} {p : Nat} (h1 : p < s.size) (h2 : bt s p = 60) (h3 : st s (p + 1) SL = false) : begF s (p : Int) = if isLet (bt s (p + 1)) = true then (2, p + 1) else (0, 0) := by
  unfold begF
  rw [Int.toNat_natCast, if_pos ⟨by omega, by omega, h2⟩, if_neg (by rw [h3]; simp)]
theorem let_out {s : ByteArray} {p : Nat} (h : s.size ≤ p) : isLet (bt s p) = false := by rw [bt_out h]; decide
theorem sl_is {s : ByteArray} {p : Nat} (h : st s p SL = true) : p < s.size := st_le h

set_option maxHeartbeats 1000000 in
set_option maxRecDepth 100000 in
theorem begin_any (w : World) (s : ByteArray) (a : Int) (hs : s.size ≤ 20000) : Calls Tryz.prog 75 #[.string s, .int .i64 a] w fun e w' => e = .returned (.tuple #[.int .i64 (begF s a).1, .int .i64 ((begF s a).2 : Int)]) ∧ Kp [] w w' := by
  by_cases h1 : a < 0
  · rw [beg_no (fun h => by omega)]
    go_enter Tryz.func75, Tryz.ntmps75
    go_wp2
    go_ret2
    exact ⟨rfl, Kp.refl _ _⟩
  by_cases h2 : ¬ a < s.size
  · rw [beg_no (fun h => by omega)]
    go_enter Tryz.func75, Tryz.ntmps75
    go_wp2
    go_ret2
    exact ⟨rfl, Kp.refl _ _⟩
  obtain ⟨p, rfl⟩ : ∃ p : Nat, a = p := ⟨a.toNat, by omega⟩
  have hp : p < s.size := by omega
  have i1 := index_at s (p : Int) p rfl hp
  obtain ⟨r1, r2⟩ := bt_range s p
  by_cases h3 : ¬ bt s p = 60
  · rw [beg_no (fun h => h3 (by have := h.2.2; rwa [Int.toNat_natCast] at this))]
    generalize bt s p = x at i1 h3 r1 r2
    have b1 : (x != 60) = true := by simpa using h3
    clear h3
    go_enter Tryz.func75, Tryz.ntmps75
    go_wp2
    go_ret2
    exact ⟨rfl, Kp.refl _ _⟩
  have h3 : bt s p = 60 := by simpa using h3
  rw [h3] at i1
  have HS := fun W => starts_any W s ((p + 1 : Nat) : Int) ⟨#[47]⟩ (by omega)
  rw [pl_of (by omega), show st s (p + 1) ⟨#[47]⟩ = st s (p + 1) SL from rfl] at HS
  push_cast at HS
  clear h1 h2 r1 r2
  cases h4 : st s (p + 1) SL with
  | true =>
    rw [h4] at HS
    have l1 := sl_is h4
    rw [beg_end hp h3 h4]
    by_cases h5 : p + 2 < s.size
    · have i2 := index_at s ((p : Int) + 1 + 1) (p + 2) (by omega) h5
      have b1 : ((p : Int) + 1 + 1 == (s.size : Int)) = false := by simp only [beq_eq_false_iff_ne, ne_eq]; omega
      obtain ⟨r1, r2⟩ := bt_range s (p + 2)
      have HL := fun W => letter_any W (bt s (p + 2))
      generalize bt s (p + 2) = x at i2 r1 r2 HL
      clear h3 h4
      cases hx : isLet x with
      | true =>
        rw [hx] at HL
        rw [if_pos rfl]
        push_cast
        clear hx
        go_enter Tryz.func75, Tryz.ntmps75
        go_wp2_with fail
        refine (HS _).mono ?_
        rintro e w1 ⟨rfl, k1⟩
        clear HS
        go_wp2_with fail
        refine (HL _).mono ?_
        rintro e w2 ⟨rfl, rfl⟩
        clear HL
        go_wp2
        go_ret2
        exact ⟨rfl, k1⟩
      | false =>
        rw [hx] at HL
        rw [if_neg (by simp)]
        clear hx
        go_enter Tryz.func75, Tryz.ntmps75
        go_wp2_with fail
        refine (HS _).mono ?_
        rintro e w1 ⟨rfl, k1⟩
        clear HS
        go_wp2_with fail
        refine (HL _).mono ?_
        rintro e w2 ⟨rfl, rfl⟩
        clear HL
        go_wp2
        go_ret2
        exact ⟨rfl, k1⟩
    · have b1 : ((p : Int) + 1 + 1 == (s.size : Int)) = true := by simp only [beq_iff_eq]; omega
      rw [let_out (by omega), if_neg (by simp)]
      clear h3 h4
      go_enter Tryz.func75, Tryz.ntmps75
      go_wp2_with fail
      refine (HS _).mono ?_
      rintro e w1 ⟨rfl, k1⟩
      clear HS
      go_wp2
      go_ret2
      exact ⟨rfl, k1⟩
  | false =>
    rw [h4] at HS
    rw [beg_start hp h3 h4]
    by_cases h5 : p + 1 < s.size
    · have i2 := index_at s ((p : Int) + 1) (p + 1) (by omega) h5
      have b1 : ((p : Int) + 1 == (s.size : Int)) = false := by simp only [beq_eq_false_iff_ne, ne_eq]; omega
      obtain ⟨r1, r2⟩ := bt_range s (p + 1)
      have HL := fun W => letter_any W (bt s (p + 1))
      generalize bt s (p + 1) = x at i2 r1 r2 HL
      clear h3 h4
      cases hx : isLet x with
      | true =>
        rw [hx] at HL
        rw [if_pos rfl]
        push_cast
        clear hx
        go_enter Tryz.func75, Tryz.ntmps75
        go_wp2_with fail
        refine (HS _).mono ?_
        rintro e w1 ⟨rfl, k1⟩
        clear HS
        go_wp2_with fail
        refine (HL _).mono ?_
        rintro e w2 ⟨rfl, rfl⟩
        clear HL
        go_wp2
        go_ret2
        exact ⟨rfl, k1⟩
      | false =>
        rw [hx] at HL
        rw [if_neg (by simp)]
        clear hx
        go_enter Tryz.func75, Tryz.ntmps75
        go_wp2_with fail
        refine (HS _).mono ?_
        rintro e w1 ⟨rfl, k1⟩
        clear HS
        go_wp2_with fail
        refine (HL _).mono ?_
        rintro e w2 ⟨rfl, rfl⟩
        clear HL
        go_wp2
        go_ret2
        exact ⟨rfl, k1⟩
    · have b1 : ((p : Int) + 1 == (s.size : Int)) = true := by simp only [beq_iff_eq]; omega
      rw [let_out (by omega), if_neg (by simp)]
      clear h3 h4
      go_enter Tryz.func75, Tryz.ntmps75
      go_wp2_with fail
      refine (HS _).mono ?_
      rintro e w1 ⟨rfl, k1⟩
      clear HS
      go_wp2
      go_ret2
      exact ⟨rfl, k1⟩

theorem in_end {s : ByteArray} {p : Nat} (hp : p ≤ s.size) (hq : skipF s p = s.size) (l : List Att) : inF s p l = ([], false, 0) := by rw [in_step hp hq, if_pos rfl]
theorem in_gt {s : ByteArray} {p q : Nat} (hp : p ≤ s.size) (hq : skipF s p = q) (h : q < s.size) (hb : bt s q = 62) (l : List Att) : inF s p l = (l, false, q + 1) := by rw [in_step hp hq, if_neg (by omega), if_pos hb]
theorem in_self {s : ByteArray} {p q : Nat} (hp : p ≤ s.size) (hq : skipF s p = q) (h : q < s.size) (hb : ¬ bt s q = 62) (hg : st s q SG = true) (l : List Att) : inF s p l = (l, true, q + 2) := by rw [in_step hp hq, if_neg (by omega), if_neg hb, if_pos hg]
theorem in_slash {s : ByteArray} {p q : Nat} (hp : p ≤ s.size) (hq : skipF s p = q) (h : q < s.size) (hg : st s q SG = false) (hb : bt s q = 47) (l : List Att) : inF s p l = inF s (q + 1) l := by rw [in_step hp hq, if_neg (by omega), if_neg (by rw [hb]; decide), if_neg (by rw [hg]; simp), if_pos hb]
theorem in_attr {s : ByteArray} {p q : Nat} (hp : p ≤ s.size) (hq : skipF s p = q) (h : q < s.size) (h1 : ¬ bt s q = 62) (h2 : ¬ bt s q = 47) (l : List Att) : inF s p l = if (aF s q).2.2 = 0 then ([], false, 0) else if (aF s q).2.2 = 2 then (l ++ [(aF s q).1], false, (aF s q).2.1) else inF s (aF s q).2.1 (l ++ [(aF s q).1]) := by
  rw [in_step hp hq, if_neg (by omega), if_neg h1, if_neg (fun e => h2 (sg_is.1 e).2.1), if_neg h2]

set_option maxHeartbeats 1000000 in
set_option maxRecDepth 100000 in
theorem inside_any (w : World) (hn : Nm w) (hi : In w) (s : ByteArray) (p0 : Nat) (hp0 : p0 ≤ s.size) (hs : s.size ≤ 4000) : Calls Tryz.prog 77 #[.string s, .int .i64 (p0 : Int)] w fun e w' => ∃ ao n c, e = .returned (.tuple #[.slice ao n c, .bool (inF s p0 []).2.1, .int .i64 ((inF s p0 []).2.2 : Int)]) ∧ Mp w w' ao n c (inF s p0 []).1 := by
  obtain ⟨A, hA⟩ : ∃ A, inF s p0 [] = A := ⟨_, rfl⟩
  rw [hA]
  go_enter Tryz.func77, Tryz.ntmps77
  go_wp2
  go_loopw [1, 4] (fun i v wr => ∃ (p : Nat) (ao : Option Addr) (n c : Nat) (L : List Att), p ≤ s.size ∧ i = .int .i64 (p : Int) ∧ v = .slice ao n c ∧ Hid (Mp w wr ao n c L) ∧ Hid (L.length ≤ p) ∧ Hid (inF s p L = A)) (fun i _ _ => s.size - (intOf i).toNat)
  case atStart => exact ⟨p0, _, _, _, [], hp0, rfl, rfl, Mp.nil w, Nat.zero_le _, hA⟩
  case round =>
    obtain ⟨p, ao, n, c, L, hp, rfl, rfl, M, hL, hI⟩ := hrel
    clear hA hp0
    have HK := skip_any wr s (p : Int) (by omega)
    rw [pl_of hp] at HK
    have hk := skip_is s hp
    obtain ⟨q, hq⟩ : ∃ q, skipF s p = q := ⟨_, rfl⟩
    rw [hq] at HK hk
    have l1 := hk.lo
    have l2 := hk.hi
    clear hk
    by_cases h1 : q = s.size
    · have hB := hI.out
      rw [in_end hp (hq.trans h1)] at hB
      subst hB
      subst h1
      clear hI hn hi hq hL
      go_wp2_with fail
      refine HK.mono ?_
      rintro e w1 ⟨rfl, rfl⟩
      clear HK
      go_wp2
      go_ret3
      exact ⟨_, _, _, rfl, Mp.none M.out.kp⟩
    have l3 : q < s.size := by omega
    have b1 : ((q : Int) == (s.size : Int)) = false := by simp only [beq_eq_false_iff_ne, ne_eq]; omega
    have i1 := index_at s (q : Int) q rfl l3
    obtain ⟨r1, r2⟩ := bt_range s q
    by_cases h2 : bt s q = 62
    · have hB := hI.out
      rw [in_gt hp hq l3 h2] at hB
      subst hB
      rw [h2] at i1
      clear hI hn hi hq hL h1 h2
      push_cast
      go_wp2_with fail
      refine HK.mono ?_
      rintro e w1 ⟨rfl, rfl⟩
      clear HK
      go_wp2
      go_ret3
      exact ⟨_, _, _, rfl, M.out⟩
    have HG := starts_any wr s (q : Int) ⟨#[47, 62]⟩ (by omega)
    rw [pl_of l2, show st s q ⟨#[47, 62]⟩ = st s q SG from rfl] at HG
    have b2 : (bt s q == 62) = false := by simpa using h2
    cases h3 : st s q SG with
    | true =>
      have hB := hI.out
      rw [in_self hp hq l3 h2 h3] at hB
      subst hB
      rw [h3] at HG
      generalize bt s q = x at i1 r1 r2 b2
      clear hI hn hi hq hL h1 h2 h3
      push_cast
      go_wp2_with fail
      refine HK.mono ?_
      rintro e w1 ⟨rfl, rfl⟩
      clear HK
      go_wp2_with fail
      refine HG.mono ?_
      rintro e w2 ⟨rfl, k2⟩
      clear HG
      go_wp2
      go_ret3
      exact ⟨_, _, _, rfl, M.out.kept k2⟩
    | false =>
      rw [h3] at HG
      by_cases h4 : bt s q = 47
      · have hB := hI.out
        rw [in_slash hp hq l3 h3 h4] at hB
        have hB2 : Hid (inF s (q + 1) L = A) := hB
        have hL2 : Hid (L.length ≤ q + 1) := by show _ ≤ _; have := hL.out; omega
        rw [h4] at i1
        clear hI hn hi hq hL h1 h2 h3 h4 hB b2 r1 r2
        go_wp2_with fail
        refine HK.mono ?_
        rintro e w1 ⟨rfl, rfl⟩
        clear HK
        go_wp2_with fail
        refine HG.mono ?_
        rintro e w2 ⟨rfl, k2⟩
        clear HG
        go_wp2
        go_roundw
        case rel => exact ⟨q + 1, _, _, _, L, l3, by go_num, rfl, M.out.kept k2, hL2, hB2⟩
        case measure => simp [intOf]; omega
      · have hB := hI.out
        rw [in_attr hp hq l3 h2 h4] at hB
        have HA := fun W (kk : Kp [] w W) => attr_any W (hn.kept kk) (hi.kept kk) s q l3 (by omega)
        obtain ⟨g1, g2, g3, g4⟩ := aF_goes l3
        generalize aF s q = T at HA g1 g2 g3 g4 hB
        obtain ⟨⟨a1, a2⟩, t, th⟩ := T
        simp only [av] at HA g1 g2 g3 g4 hB
        have b4 : (bt s q == 47) = false := by simpa using h4
        have hn1 : n + 1 ≤ 100000 := by have := M.out.len; have := hL.out; omega
        generalize bt s q = x at i1 r1 r2 b2 b4
        clear hI hn hi hq h1 h2 h3 h4
        by_cases h5 : th = 0
        · rw [if_pos h5] at hB
          subst hB
          subst h5
          clear g3 g4 hL
          go_wp2_with fail
          refine HK.mono ?_
          rintro e w1 ⟨rfl, rfl⟩
          clear HK
          go_wp2_with fail
          refine HG.mono ?_
          rintro e w2 ⟨rfl, k2⟩
          clear HG
          have M2 := M.out.kept k2
          clear M
          go_wp2_with fail
          refine (HA _ M2.kp).mono ?_
          rintro e w3 ⟨rfl, k3⟩
          clear HA
          have M3 := (M2.kept k3).kept ((Kp.refl _ _).alloc (.cells #[.string a1, .string a2] 73))
          clear M2 k3
          go_wp2
          go_ret3
          exact ⟨_, _, _, rfl, Mp.none M3.kp⟩
        rw [if_neg h5] at hB
        have b5 : (th == 0) = false := by simpa using h5
        by_cases h6 : th = 2
        · rw [if_pos h6] at hB
          subst hB
          subst h6
          clear g3 g4 hL
          go_wp2_with fail
          refine HK.mono ?_
          rintro e w1 ⟨rfl, rfl⟩
          clear HK
          go_wp2_with fail
          refine HG.mono ?_
          rintro e w2 ⟨rfl, k2⟩
          clear HG
          have M2 := M.out.kept k2
          clear M
          go_wp2_with fail
          refine (HA _ M2.kp).mono ?_
          rintro e w3 ⟨rfl, k3⟩
          clear HA
          have M3 := (M2.kept k3).kept ((Kp.refl _ _).alloc (.cells #[.string a1, .string a2] 73))
          clear M2 k3
          obtain ⟨a4, n4, c4, w4, hrun, M4⟩ := M3.one (a1, a2) (by omega)
          rw [show (w3.alloc (.cells #[.string a1, .string a2] 73)).heap.size = w3.heap.size + 1 by simp] at hrun
          clear M3
          go_wp2_with (at_builtin; refine Lib.wpList_append_run _ rfl _ _ _ _ rfl _ _ rfl rfl _ _ (hrun _) ?_)
          go_ret3
          exact ⟨_, _, _, rfl, M4⟩
        · rw [if_neg h6] at hB
          obtain rfl : th = 1 := by omega
          have hB2 : Hid (inF s t (L ++ [(a1, a2)]) = A) := hB
          have hL2 : Hid ((L ++ [(a1, a2)]).length ≤ t) := by show _ ≤ _; have := hL.out; rw [List.length_append, List.length_singleton]; omega
          clear g3 g4 hL hB h5 h6
          go_wp2_with fail
          refine HK.mono ?_
          rintro e w1 ⟨rfl, rfl⟩
          clear HK
          go_wp2_with fail
          refine HG.mono ?_
          rintro e w2 ⟨rfl, k2⟩
          clear HG
          have M2 := M.out.kept k2
          clear M
          go_wp2_with fail
          refine (HA _ M2.kp).mono ?_
          rintro e w3 ⟨rfl, k3⟩
          clear HA
          have M3 := (M2.kept k3).kept ((Kp.refl _ _).alloc (.cells #[.string a1, .string a2] 73))
          clear M2 k3
          obtain ⟨a4, n4, c4, w4, hrun, M4⟩ := M3.one (a1, a2) (by omega)
          rw [show (w3.alloc (.cells #[.string a1, .string a2] 73)).heap.size = w3.heap.size + 1 by simp] at hrun
          clear M3
          go_wp2_with (at_builtin; refine Lib.wpList_append_run _ rfl _ _ _ _ rfl _ _ rfl rfl _ _ (hrun _) ?_)
          go_roundw
          case rel => exact ⟨t, _, _, _, _, g2, rfl, rfl, M4, hL2, hB2⟩
          case measure => simp [intOf]; omega

end Go.Proofs.YtcfaejbbjmjgpaaGreatDoor
