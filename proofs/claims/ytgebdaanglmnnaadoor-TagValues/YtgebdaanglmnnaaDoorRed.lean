/-
  What a reference stands for, the place behind it, and a text with each one read: no program.
-/
import Derived.Test.YtgebdaanglmnnaaDoorStand
import Derived.Test.YtgebdaanglmnnaaDoorOne
namespace Go.Proofs.YtgebdaanglmnnaaDoor
open Go.RowKit Utf
set_option linter.unusedVariables false

/-- A digit to the base b. -/
def isD (x b : Int) : Bool := isHex x && decide (hexv x < b)
/-- The place where the digits from p on end. -/
def dend (s : ByteArray) (b : Int) (p : Nat) : Nat := fs (fun i => !isD (bt s i) b) p s.size
/-- The number that k digits from p on make. -/
def uv (s : ByteArray) (b : Int) (p : Nat) : Nat → Int
  | 0 => 0
  | k + 1 => uv s b p k * b + hexv (bt s (p + k))
/-- So, but no greater than the least number that is too great. -/
def cap (u : Int) : Int := if u ≤ 1114112 then u else 1114112

/-- Ten or sixteen. -/
abbrev Tens (b : Int) : Prop := b = 10 ∨ b = 16

theorem uv_pos {s : ByteArray} {b : Int} (hb : Tens b) (p : Nat) : ∀ k, 0 ≤ uv s b p k
  | 0 => Int.le_refl _
  | k + 1 => by
    have h1 := uv_pos (s := s) hb p k
    have h2 := (hexv_range (bt s (p + k))).1
    rw [uv]
    rcases hb with rfl | rfl <;> omega

theorem cap_range {u : Int} (h : 0 ≤ u) : 0 ≤ cap u ∧ cap u ≤ 1114112 := by
  unfold cap
  split <;> omega

theorem cap_step {b u d : Int} (hb : Tens b) (hu : 0 ≤ u) (hd : 0 ≤ d) : cap (cap u * b + d) = cap (u * b + d) := by
  unfold cap
  rcases hb with rfl | rfl
  all_goals
    repeat' split
    all_goals omega

theorem num_far {m u : Int} (h1 : 1114111 < m) (h2 : 1114111 < u) : num m = num u := by
  rw [num_odd (Or.inr (Or.inl h1)), num_odd (Or.inr (Or.inl h2))]

theorem num_cap (u : Int) : num (cap u) = num u := by
  unfold cap
  split
  · rfl
  · exact num_far (by omega) (by omega)

/-- The document's number m, where u is the digits' own. -/
abbrev Near (m u : Int) : Prop := m = u ∧ u ≤ 17825807 ∨ (1114111 < m ∧ m ≤ 17825807 ∧ 1114111 < u)

theorem near_num {m u : Int} (h : Near m u) : num m = num u := by
  rcases h with ⟨h, _⟩ | ⟨h1, _, h2⟩
  · rw [h]
  · exact num_far h1 h2

theorem near_step {b m u d : Int} (hb : Tens b) (hu : 0 ≤ u) (hd : 0 ≤ d ∧ d ≤ 15) (h : Near m u) : Near (if m ≤ 1114111 then m * b + d else m) (u * b + d) := by
  unfold Near at h ⊢
  rcases hb with rfl | rfl
  all_goals
    split
    · rcases h with ⟨rfl, h⟩ | h
      · left; omega
      · omega
    · right; omega

theorem near_range {m u : Int} (h : Near m u) (hu : 0 ≤ u) : 0 ≤ m ∧ m ≤ 17825807 := by
  unfold Near at h
  omega

def AMP : ByteArray := ⟨#[38]⟩
def SEM : ByteArray := ⟨#[59]⟩
def HSH : ByteArray := ⟨#[38, 35]⟩
def XX : ByteArray := ⟨#[120]⟩

/-- Behind the two signs of a number at p stands an x. -/
def hx (s : ByteArray) (p : Nat) : Bool := fo s (p + 2) XX
/-- Where its digits begin. -/
def dfr (s : ByteArray) (p : Nat) : Nat := if hx s p then p + 3 else p + 2
/-- To which base. -/
def bas (s : ByteArray) (p : Nat) : Int := if hx s p then 16 else 10
theorem bas_tens (s : ByteArray) (p : Nat) : Tens (bas s p) := by
  unfold bas Tens
  split <;> simp
/-- Where they end. -/
def nend (s : ByteArray) (p : Nat) : Nat := dend s (bas s p) (dfr s p)
/-- A number stands at p. -/
def isN (s : ByteArray) (p : Nat) : Bool := st s p HSH && decide (¬ nend s p = dfr s p)
/-- The name that stands behind the sign at p. -/
def nmAt (s : ByteArray) (p : Nat) : ByteArray := found (s.extract (p + 1) s.size)
/-- A sign stands at q that makes of a name ahead of it a piece of something else. -/
def goes (s : ByteArray) (q : Nat) : Bool := decide (q < s.size) && (bt s q == 61 || isLet (bt s q) || isDig (bt s q))
/-- The name at p is left as it stands. -/
def left (s : ByteArray) (p : Nat) (attr : Bool) : Bool := attr && !(bt s (p + (nmAt s p).size) == 59) && goes s (p + 1 + (nmAt s p).size)
/-- What the number at p is. -/
def numAt (s : ByteArray) (p : Nat) : ByteArray := num (uv s (bas s p) (dfr s p) (nend s p - dfr s p))
/-- What stands for what is written at p. -/
def rT (s : ByteArray) (p : Nat) (attr : Bool) : ByteArray :=
  if isN s p then numAt s p else if (nmAt s p).size = 0 then AMP else if left s p attr then s.extract p (p + 1 + (nmAt s p).size) else mean (nmAt s p)
/-- And the place behind it. -/
def rE (s : ByteArray) (p : Nat) : Nat :=
  if isN s p then (if st s (nend s p) SEM then nend s p + 1 else nend s p) else p + 1 + (nmAt s p).size

theorem st_le {s : ByteArray} {p : Nat} {x : ByteArray} (h : st s p x = true) : p + x.size ≤ s.size := by
  unfold st at h
  exact (of_decide_eq_true h).1
theorem st_at {s : ByteArray} {p : Nat} {x : ByteArray} (h : st s p x = true) (j : Nat) (hj : j < x.size) : bt s (p + j) = bt x j := by
  unfold st at h
  exact (of_decide_eq_true h).2 j hj
theorem fo_le {s : ByteArray} {p : Nat} {x : ByteArray} (h : fo s p x = true) : p + x.size ≤ s.size := by
  unfold fo at h
  exact (of_decide_eq_true h).1

theorem dfr_le {s : ByteArray} {p : Nat} (h : st s p HSH = true) : p + 2 ≤ dfr s p ∧ dfr s p ≤ s.size := by
  have h1 := st_le h
  rw [show HSH.size = 2 from rfl] at h1
  unfold dfr
  cases hh : hx s p
  · simp
    omega
  · have h2 := fo_le hh
    rw [show XX.size = 1 from rfl] at h2
    simp
    omega

theorem dend_is (s : ByteArray) (b : Int) {p : Nat} (h : p ≤ s.size) : Fs (fun i => !isD (bt s i) b) p s.size (dend s b p) := fs_is _ h

theorem nend_le {s : ByteArray} {p : Nat} (h : st s p HSH = true) : dfr s p ≤ nend s p ∧ nend s p ≤ s.size := by
  have h1 := dend_is s (bas s p) (dfr_le h).2
  exact ⟨h1.lo, h1.hi⟩

theorem isN_st {s : ByteArray} {p : Nat} (h : isN s p = true) : st s p HSH = true := by
  unfold isN at h
  simp only [Bool.and_eq_true] at h
  exact h.1

theorem pre_size {x s : ByteArray} (h : pre x s = true) : x.size ≤ s.size := by
  unfold pre at h
  simp only [Bool.and_eq_true, decide_eq_true_eq] at h
  exact h.1

theorem nmAt_le {s : ByteArray} {p : Nat} (h : p < s.size) : p + 1 + (nmAt s p).size ≤ s.size ∧ (nmAt s p).size ≤ 14 := by
  obtain ⟨h1, h2, _⟩ := longest (s.extract (p + 1) s.size)
  have h3 := pre_size h1
  rw [ByteArray.size_extract] at h3
  unfold nmAt
  refine ⟨by omega, ?_⟩
  rcases h2 with h2 | h2
  · rw [h2]
    decide
  · exact (nm_size _ h2).2

theorem rE_gt {s : ByteArray} {p : Nat} (h : p < s.size) : p < rE s p ∧ rE s p ≤ s.size := by
  unfold rE
  cases hn : isN s p
  · have := (nmAt_le h).1
    simp
    omega
  · have h1 := isN_st hn
    have h2 := dfr_le h1
    have h3 := nend_le h1
    simp only [if_true]
    cases h4 : st s (nend s p) SEM
    · simp
      omega
    · have h5 := st_le h4
      rw [show SEM.size = 1 from rfl] at h5
      simp
      omega

/-- A name's beginning is no sign of a number. -/
theorem nm_first : ∀ x, x ∈ NM → bt x 0 ≠ 35 := by decide +kernel

theorem pre_bt {x s : ByteArray} (h : pre x s = true) {j : Nat} (hj : j < x.size) : bt x j = bt s j := by
  have h1 := pre_size h
  unfold pre at h
  simp only [Bool.and_eq_true, list_eq, decide_eq_true_eq] at h
  have h2 := h.2
  rw [← h2, bt_cut s 0 x.size j (by omega) h1, Nat.zero_add]

theorem nmAt_hash {s : ByteArray} {p : Nat} (h : st s p HSH = true) : nmAt s p = ⟨#[]⟩ := by
  have h0 := st_le h
  rw [show HSH.size = 2 from rfl] at h0
  have hb := st_at h 1 (by decide)
  rw [show bt HSH 1 = 35 by decide] at hb
  unfold nmAt
  obtain ⟨h1, h2, _⟩ := longest (s.extract (p + 1) s.size)
  rcases h2 with h2 | h2
  · exact h2
  · exfalso
    refine nm_first _ h2 ?_
    rw [pre_bt h1 (by have := (nm_size _ h2).1; omega), bt_cut s (p + 1) s.size 0 (by omega) (Nat.le_refl _)]
    exact hb

theorem fo_hash {s : ByteArray} {p : Nat} (h : st s p HSH = true) : fo s p ⟨#[38, 35, 120]⟩ = hx s p := by
  have h0 := st_le h
  rw [show HSH.size = 2 from rfl] at h0
  have e0 := st_at h 0 (by decide)
  have e1 := st_at h 1 (by decide)
  rw [show bt HSH 0 = 38 by decide] at e0
  rw [show bt HSH 1 = 35 by decide] at e1
  unfold hx fo
  rw [decide_eq_decide]
  rw [show (⟨#[38, 35, 120]⟩ : ByteArray).size = 3 from rfl, show XX.size = 1 from rfl]
  constructor
  · rintro ⟨h1, h2⟩
    refine ⟨by omega, fun j hj => ?_⟩
    obtain rfl : j = 0 := by omega
    have := h2 2 (by omega)
    rw [show bt ⟨#[38, 35, 120]⟩ 2 = 120 by decide] at this
    rw [show bt XX 0 = 120 by decide]
    exact this
  · rintro ⟨h1, h2⟩
    refine ⟨by omega, fun j hj => ?_⟩
    rcases (show j = 0 ∨ j = 1 ∨ j = 2 by omega) with rfl | rfl | rfl
    · rw [e0]
      decide
    · rw [e1]
      decide
    · have := h2 0 (by omega)
      rw [show bt XX 0 = 120 by decide] at this
      rw [show bt ⟨#[38, 35, 120]⟩ 2 = 120 by decide]
      exact this

theorem mean_size : ∀ x, x ∈ NM → 0 < (mean x).size ∧ (mean x).size ≤ 16 := by decide +kernel

theorem num_size (n : Int) : 0 < (num n).size ∧ (num n).size ≤ 16 := by
  unfold num
  have hg := rune_good n
  obtain ⟨m, hm⟩ : ∃ m : Nat, rune n = m := ⟨(rune n).toNat, by unfold good at hg; omega⟩
  rw [hm] at hg ⊢
  refine ⟨(decode_encode hg).2, ?_⟩
  rw [encode_nat hg]
  repeat' split
  all_goals simp [ByteArray.size]

theorem rT_size {s : ByteArray} {p : Nat} (h : p < s.size) (attr : Bool) : 0 < (rT s p attr).size ∧ (rT s p attr).size ≤ 16 := by
  unfold rT
  cases hn : isN s p
  · simp only [Bool.false_eq_true, if_false]
    by_cases h0 : (nmAt s p).size = 0
    · rw [if_pos h0]
      decide
    · rw [if_neg h0]
      have h1 := nmAt_le h
      have h2 : nmAt s p ∈ NM := by
        rcases (longest (s.extract (p + 1) s.size)).2.1 with h2 | h2
        · exfalso
          refine h0 ?_
          unfold nmAt
          rw [h2]
          rfl
        · exact h2
      cases left s p attr
      · exact mean_size _ h2
      · simp only [if_true, ByteArray.size_extract]
        omega
  · simp only [if_true]
    exact num_size _

/-- A text from p on with each reference read; k places at most are gone through. -/
def alls (s : ByteArray) (attr : Bool) : Nat → Nat → ByteArray
  | 0, _ => ⟨#[]⟩
  | k + 1, p => if p < s.size then (if bt s p = 38 then rT s p attr ++ alls s attr k (rE s p) else s.extract p (p + 1) ++ alls s attr k (p + 1)) else ⟨#[]⟩
/-- A text from p on with each reference read. -/
def allF (s : ByteArray) (attr : Bool) (p : Nat) : ByteArray := alls s attr (s.size - p) p

theorem alls_same (s : ByteArray) (attr : Bool) : ∀ k k' p, s.size - p ≤ k → s.size - p ≤ k' → alls s attr k p = alls s attr k' p
  | 0, 0, _, _, _ => rfl
  | 0, k' + 1, p, h, _ => by rw [alls, alls, if_neg (by omega)]
  | k + 1, 0, p, _, h => by rw [alls, alls, if_neg (by omega)]
  | k + 1, k' + 1, p, h, h' => by
    rw [alls, alls]
    by_cases hp : p < s.size
    · have := rE_gt hp
      rw [if_pos hp, if_pos hp, alls_same s attr k k' (rE s p) (by omega) (by omega), alls_same s attr k k' (p + 1) (by omega) (by omega)]
    · rw [if_neg hp, if_neg hp]

theorem allF_end {s : ByteArray} {p : Nat} (h : s.size ≤ p) (attr : Bool) : allF s attr p = ⟨#[]⟩ := by
  unfold allF
  rw [show s.size - p = 0 by omega, alls]

theorem allF_amp {s : ByteArray} {p : Nat} (h : p < s.size) (hb : bt s p = 38) (attr : Bool) : allF s attr p = rT s p attr ++ allF s attr (rE s p) := by
  unfold allF
  have := rE_gt h
  rw [show s.size - p = (s.size - p - 1) + 1 by omega, alls, if_pos h, if_pos hb, alls_same s attr (s.size - p - 1) (s.size - rE s p) _ (by omega) (by omega)]

theorem allF_other {s : ByteArray} {p : Nat} (h : p < s.size) (hb : ¬ bt s p = 38) (attr : Bool) : allF s attr p = s.extract p (p + 1) ++ allF s attr (p + 1) := by
  unfold allF
  rw [show s.size - p = (s.size - p - 1) + 1 by omega, alls, if_pos h, if_neg hb, alls_same s attr (s.size - p - 1) (s.size - (p + 1)) _ (by omega) (by omega)]

theorem cat_assoc (a b c : ByteArray) : a ++ b ++ c = a ++ (b ++ c) := ByteArray.append_assoc
theorem cat_nil (a : ByteArray) : a ++ ⟨#[]⟩ = a := ByteArray.append_empty
theorem nil_cat (a : ByteArray) : ⟨#[]⟩ ++ a = a := ByteArray.empty_append
theorem cat_size (a b : ByteArray) : (a ++ b).size = a.size + b.size := ByteArray.size_append

theorem cut_cut (s : ByteArray) {p q r : Nat} (h1 : p ≤ q) (h2 : q ≤ r) (h3 : r ≤ s.size) : s.extract p q ++ s.extract q r = s.extract p r := by
  refine ByteArray.ext ?_
  simp only [ByteArray.data_append, ByteArray.data_extract]
  rw [Array.extract_append_extract, Nat.min_eq_left (by omega), Nat.max_eq_right (by omega)]
theorem cut_none (s : ByteArray) (p : Nat) : s.extract p p = ⟨#[]⟩ := by
  refine ByteArray.ext ?_
  simp

/-- What has no such sign is left as it is. -/
theorem allF_skip (s : ByteArray) (attr : Bool) : ∀ k p, p + k ≤ s.size → (∀ j, p ≤ j → j < p + k → ¬ bt s j = 38) → allF s attr p = s.extract p (p + k) ++ allF s attr (p + k)
  | 0, p, _, _ => by rw [Nat.add_zero, cut_none, nil_cat]
  | k + 1, p, h, hb => by
    rw [allF_other (by omega) (hb p (Nat.le_refl _) (by omega)), allF_skip s attr k (p + 1) (by omega) (fun j h1 h2 => hb j (by omega) (by omega)), ← cat_assoc, cut_cut s (by omega) (by omega) (by omega), show p + 1 + k = p + (k + 1) by omega]

theorem allF_size (s : ByteArray) (attr : Bool) : ∀ k p, s.size - p ≤ k → (allF s attr p).size ≤ 16 * (s.size - p)
  | 0, p, h => by
    rw [allF_end (by omega)]
    exact Nat.zero_le _
  | k + 1, p, h => by
    by_cases hp : p < s.size
    · by_cases hb : bt s p = 38
      · have h1 := rE_gt hp
        have h2 := allF_size s attr k (rE s p) (by omega)
        have h3 := rT_size hp attr
        rw [allF_amp hp hb, cat_size]
        omega
      · have h2 := allF_size s attr k (p + 1) (by omega)
        rw [allF_other hp hb, cat_size, ByteArray.size_extract]
        omega
    · rw [allF_end (by omega)]
      exact Nat.zero_le _

/-- Of any number as a place: what Read tells. -/
def rAT (s : ByteArray) (a : Int) (attr : Bool) : ByteArray := if 0 ≤ a ∧ a < s.size ∧ bt s a.toNat = 38 then rT s a.toNat attr else ⟨#[]⟩
def rAE (s : ByteArray) (a : Int) : Int := if 0 ≤ a ∧ a < s.size ∧ bt s a.toNat = 38 then (rE s a.toNat : Int) else a

theorem rA_no {s : ByteArray} {a : Int} (h : ¬ (0 ≤ a ∧ a < s.size ∧ bt s a.toNat = 38)) (attr : Bool) : rAT s a attr = ⟨#[]⟩ ∧ rAE s a = a := by
  unfold rAT rAE
  rw [if_neg h, if_neg h]
  exact ⟨rfl, rfl⟩
theorem rA_yes {s : ByteArray} {p : Nat} (h : p < s.size) (hb : bt s p = 38) (attr : Bool) : rAT s p attr = rT s p attr ∧ rAE s p = (rE s p : Int) := by
  have h1 : 0 ≤ (p : Int) ∧ (p : Int) < s.size ∧ bt s (p : Int).toNat = 38 := ⟨by omega, by omega, by simpa using hb⟩
  unfold rAT rAE
  rw [if_pos h1, if_pos h1, Int.toNat_natCast]
  exact ⟨rfl, rfl⟩

end Go.Proofs.YtgebdaanglmnnaaDoor
