/-
  Values that are written with references for the three signs come back; a tag with such a value is read. No program.
-/
import Derived.Test.YtgebdaanglmnnaaDoorOpens
namespace Go.Proofs.YtgebdaanglmnnaaDoor
open Go.RowKit Utf
set_option linter.unusedVariables false

def QUOS : ByteArray := ⟨#[38, 113, 117, 111, 116, 59]⟩
def QUON : ByteArray := ⟨#[113, 117, 111, 116, 59]⟩
def APOS : ByteArray := ⟨#[38, 35, 51, 57, 59]⟩

theorem nm_quo : ∀ x, x ∈ NM → 5 ≤ x.size → bt x 0 = 113 → bt x 1 = 117 → bt x 2 = 111 → bt x 3 = 116 → bt x 4 = 59 → x = QUON := by decide +kernel
theorem quo_in : QUON ∈ NM := List.mem_of_getElem? (i := 38) (by kernel_rfl)

theorem found_quo {t : ByteArray} (h : 5 ≤ t.size) (h0 : bt t 0 = 113) (h1 : bt t 1 = 117) (h2 : bt t 2 = 111) (h3 : bt t 3 = 116) (h4 : bt t 4 = 59) : found t = QUON := by
  obtain ⟨g1, g2, g3⟩ := longest t
  have hp : pre QUON t = true := pre_of h fun j hj => by
    have hj4 : j < 5 := hj
    rcases (show j = 0 ∨ j = 1 ∨ j = 2 ∨ j = 3 ∨ j = 4 by omega) with rfl | rfl | rfl | rfl | rfl
    · rw [h0]; decide
    · rw [h1]; decide
    · rw [h2]; decide
    · rw [h3]; decide
    · rw [h4]; decide
  have hz : 5 ≤ (found t).size := g3 _ quo_in hp
  rcases g2 with g2 | g2
  · rw [g2] at hz
    exact absurd hz (by decide)
  · exact nm_quo _ g2 hz ((pre_bt g1 (by omega)).trans h0) ((pre_bt g1 (by omega)).trans h1) ((pre_bt g1 (by omega)).trans h2) ((pre_bt g1 (by omega)).trans h3) ((pre_bt g1 (by omega)).trans h4)

/-- A double quote that is written as a reference is read as itself. -/
theorem read_quo {t : ByteArray} {p : Nat} (h : p + 6 ≤ t.size) (hb : ∀ j, j < 6 → bt t (p + j) = bt QUOS j) (attr : Bool) : bt t p = 38 ∧ rT t p attr = ⟨#[34]⟩ ∧ rE t p = p + 6 := by
  have e0 := hb 0 (by omega)
  have e1 := hb 1 (by omega)
  have e2 := hb 2 (by omega)
  have e3 := hb 3 (by omega)
  have e4 := hb 4 (by omega)
  have e5 := hb 5 (by omega)
  rw [show bt QUOS 0 = 38 by decide] at e0
  rw [show bt QUOS 1 = 113 by decide] at e1
  rw [show bt QUOS 2 = 117 by decide] at e2
  rw [show bt QUOS 3 = 111 by decide] at e3
  rw [show bt QUOS 4 = 116 by decide] at e4
  rw [show bt QUOS 5 = 59 by decide] at e5
  have hn : isN t p = false := isN_no (st_not 1 (by decide) (by rw [e1]; decide))
  have hz : (t.extract (p + 1) t.size).size = t.size - (p + 1) := by rw [ByteArray.size_extract]; omega
  have hf : nmAt t p = QUON := by
    unfold nmAt
    refine found_quo (by omega) ?_ ?_ ?_ ?_ ?_
    all_goals rw [bt_cut t (p + 1) t.size _ (by omega) (Nat.le_refl _)]
    · exact e1
    · exact e2
    · exact e3
    · exact e4
    · exact e5
  refine ⟨e0, ?_, ?_⟩
  · rw [rT_nam hn]
    unfold nT left
    rw [hf, show QUON.size = 5 from rfl, e5]
    rw [if_neg (by omega), if_neg (by cases attr <;> simp)]
    kernel_rfl
  · rw [rE_nam hn, hf]
    rfl

/-- So a single one. -/
theorem read_apo {t : ByteArray} {p : Nat} (h : p + 5 ≤ t.size) (hb : ∀ j, j < 5 → bt t (p + j) = bt APOS j) (attr : Bool) : bt t p = 38 ∧ rT t p attr = ⟨#[39]⟩ ∧ rE t p = p + 5 := by
  have e0 := hb 0 (by omega)
  have e1 := hb 1 (by omega)
  have e2 := hb 2 (by omega)
  have e3 := hb 3 (by omega)
  have e4 := hb 4 (by omega)
  rw [show bt APOS 0 = 38 by decide] at e0
  rw [show bt APOS 1 = 35 by decide] at e1
  rw [show bt APOS 2 = 51 by decide] at e2
  rw [show bt APOS 3 = 57 by decide] at e3
  rw [show bt APOS 4 = 59 by decide] at e4
  have hst : st t p HSH = true := st_true (by show p + 2 ≤ t.size; omega) fun j hj => by
    have hj2 : j < 2 := hj
    rcases (show j = 0 ∨ j = 1 by omega) with rfl | rfl
    · exact e0.trans (by decide)
    · exact e1.trans (by decide)
  have hh : hx t p = false := fo_not 0 (by decide) (by rw [Nat.add_zero, e2]; decide)
  have hd : dfr t p = p + 2 := by unfold dfr; rw [hh]; rfl
  have hba : bas t p = 10 := by unfold bas; rw [hh]; rfl
  have hne : nend t p = p + 4 := by
    unfold nend
    rw [hba, hd]
    refine fs_eq ⟨by omega, by omega, fun j a b => ?_, fun _ => ?_⟩
    · rcases (show j = p + 2 ∨ j = p + 3 by omega) with rfl | rfl
      · rw [e2]; decide
      · rw [e3]; decide
    · rw [e4]; decide
  have hn : isN t p = true := by
    unfold isN
    rw [hst, hne, hd]
    simp
  have hsem : st t (p + 4) SEM = true := st_true (by show p + 4 + 1 ≤ t.size; omega) fun j hj => by
    have hj1 : j < 1 := hj
    obtain rfl : j = 0 := by omega
    exact e4.trans (by decide)
  refine ⟨e0, ?_, ?_⟩
  · rw [rT_num hn]
    unfold numAt
    rw [hne, hd, hba, show p + 4 - (p + 2) = 2 by omega]
    have hu : uv t 10 (p + 2) 2 = 39 := by
      show (0 * 10 + hexv (bt t (p + 2 + 0))) * 10 + hexv (bt t (p + 2 + 1)) = 39
      rw [Nat.add_zero, show p + 2 + 1 = p + 3 by omega, e2, e3]
      decide
    exact (congrArg num hu).trans (by kernel_rfl)
  · unfold rE
    rw [if_pos hn, hne, if_pos hsem]

/-- The byte at k as it is written. -/
def wr3 (s : ByteArray) (k : Nat) : ByteArray := if bt s k = 38 then AMPS else if bt s k = 34 then QUOS else if bt s k = 39 then APOS else s.extract k (k + 1)
/-- The first k bytes, written so. -/
def w3 (s : ByteArray) : Nat → ByteArray
  | 0 => ⟨#[]⟩
  | k + 1 => w3 s k ++ wr3 s k

theorem wr3_size {s : ByteArray} {k : Nat} (h : k < s.size) : (wr3 s k).size ≤ 6 := by
  unfold wr3
  split
  · decide
  split
  · decide
  split
  · decide
  · rw [one_size h]; omega

theorem w3_size {s : ByteArray} : ∀ k, k ≤ s.size → (w3 s k).size ≤ 6 * k
  | 0, _ => Nat.le_refl _
  | k + 1, h => by
    have h1 := w3_size (s := s) k (by omega)
    have h2 := wr3_size (s := s) (k := k) (by omega)
    rw [w3, cat_size]
    omega

theorem wr3_none {s : ByteArray} {k : Nat} (h : k < s.size) : ∀ j, j < (wr3 s k).size → ¬ bt (wr3 s k) j = 34 ∧ ¬ bt (wr3 s k) j = 39 := by
  have ha : ∀ j, j < AMPS.size → ¬ bt AMPS j = 34 ∧ ¬ bt AMPS j = 39 := by decide +kernel
  have hq : ∀ j, j < QUOS.size → ¬ bt QUOS j = 34 ∧ ¬ bt QUOS j = 39 := by decide +kernel
  have hp : ∀ j, j < APOS.size → ¬ bt APOS j = 34 ∧ ¬ bt APOS j = 39 := by decide +kernel
  unfold wr3
  split
  · exact ha
  split
  · exact hq
  split
  · exact hp
  next h1 h2 h3 =>
    intro j hj
    rw [one_size h] at hj
    obtain rfl : j = 0 := by omega
    rw [one_bt h]
    exact ⟨h2, h3⟩

theorem w3_none {s : ByteArray} : ∀ k, k ≤ s.size → ∀ j, j < (w3 s k).size → ¬ bt (w3 s k) j = 34 ∧ ¬ bt (w3 s k) j = 39
  | 0, _ => fun j hj => absurd hj (Nat.not_lt_zero _)
  | k + 1, h => by
    intro j hj
    rw [w3] at hj ⊢
    rw [cat_size] at hj
    rcases Nat.lt_or_ge j (w3 s k).size with g | g
    · rw [bt_left _ _ g]
      exact w3_none k (by omega) j g
    · obtain ⟨i, rfl⟩ : ∃ i, j = (w3 s k).size + i := ⟨j - (w3 s k).size, by omega⟩
      rw [bt_right]
      exact wr3_none (by omega) i (by omega)

theorem w3_more {s : ByteArray} (k : Nat) : ∀ d, (w3 s k).size ≤ (w3 s (k + d)).size ∧ ∀ j, j < (w3 s k).size → bt (w3 s (k + d)) j = bt (w3 s k) j
  | 0 => ⟨Nat.le_refl _, fun j _ => rfl⟩
  | d + 1 => by
    obtain ⟨h1, h2⟩ := w3_more (s := s) k d
    rw [show k + (d + 1) = k + d + 1 by omega, w3]
    refine ⟨by rw [cat_size]; omega, fun j hj => ?_⟩
    rw [bt_left _ _ (by omega)]
    exact h2 j hj

/-- One byte that is written is read as itself. -/
theorem read_one {s t : ByteArray} {k p : Nat} (h : k < s.size) (hp : p + (wr3 s k).size ≤ t.size) (hb : ∀ j, j < (wr3 s k).size → bt t (p + j) = bt (wr3 s k) j) : allF t true p = s.extract k (k + 1) ++ allF t true (p + (wr3 s k).size) := by
  have one : ∀ c : UInt8, bt s k = (c.toNat : Int) → (⟨#[c]⟩ : ByteArray) = s.extract k (k + 1) := fun c hc => by
    refine bt_ext (by rw [one_size h]; rfl) fun j hj => ?_
    have hj1 : j < 1 := hj
    obtain rfl : j = 0 := by omega
    rw [one_bt h, hc]
    exact bt_at ⟨#[c]⟩ 0 (Nat.zero_lt_one)
  unfold wr3 at hp hb ⊢
  by_cases h1 : bt s k = 38
  · rw [if_pos h1] at hp hb ⊢
    obtain ⟨r1, r2, r3⟩ := read_amp (t := t) (p := p) hp hb true
    have hlt : p < t.size := by have : AMPS.size = 5 := rfl; omega
    rw [allF_amp hlt r1, r2, r3, show AMP = s.extract k (k + 1) from one 38 h1]
    rfl
  rw [if_neg h1] at hp hb ⊢
  by_cases h2 : bt s k = 34
  · rw [if_pos h2] at hp hb ⊢
    obtain ⟨r1, r2, r3⟩ := read_quo (t := t) (p := p) hp hb true
    have hlt : p < t.size := by have : QUOS.size = 6 := rfl; omega
    rw [allF_amp hlt r1, r2, r3, one 34 h2]
    rfl
  rw [if_neg h2] at hp hb ⊢
  by_cases h3 : bt s k = 39
  · rw [if_pos h3] at hp hb ⊢
    obtain ⟨r1, r2, r3⟩ := read_apo (t := t) (p := p) hp hb true
    have hlt : p < t.size := by have : APOS.size = 5 := rfl; omega
    rw [allF_amp hlt r1, r2, r3, one 39 h3]
    rfl
  rw [if_neg h3] at hp hb ⊢
  rw [one_size h] at hp hb ⊢
  have e1 : bt t p = bt s k := by
    have := hb 0 (by omega)
    rw [Nat.add_zero, one_bt h] at this
    exact this
  rw [allF_other (by omega) (by rw [e1]; exact h1)]
  congr 1
  refine bt_ext (by rw [one_size (by omega), one_size h]) fun j hj => ?_
  rw [one_size (by omega)] at hj
  obtain rfl : j = 0 := by omega
  rw [one_bt (by omega), one_bt h, e1]

theorem all_w3 {s : ByteArray} {n : Nat} (hn : n ≤ s.size) : ∀ d k, k + d = n → allF (w3 s n) true (w3 s k).size = s.extract k n
  | 0, k, h => by
    obtain rfl : k = n := by omega
    rw [allF_end (Nat.le_refl _), cut_none]
  | d + 1, k, h => by
    have ih := all_w3 hn d (k + 1) (by omega)
    obtain ⟨m1, m2⟩ := w3_more (s := s) (k + 1) d
    rw [show k + 1 + d = n by omega] at m1 m2
    rw [← cut_cut s (q := k + 1) (by omega) (by omega) hn, ← ih]
    have hw : w3 s (k + 1) = w3 s k ++ wr3 s k := rfl
    have hz : (w3 s (k + 1)).size = (w3 s k).size + (wr3 s k).size := by rw [hw, cat_size]
    rw [read_one (s := s) (t := w3 s n) (k := k) (p := (w3 s k).size) (by omega) (by omega) (fun j hj => by rw [m2 _ (by omega), hw, bt_right]), hz]

theorem w3_back {s : ByteArray} {n : Nat} (hn : n ≤ s.size) : allF (w3 s n) true 0 = s.extract 0 n := all_w3 hn n 0 (by omega)

end Go.Proofs.YtgebdaanglmnnaaDoor
