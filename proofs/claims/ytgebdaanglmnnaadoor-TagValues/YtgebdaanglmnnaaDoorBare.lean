/-
  A text without its ampersands, and with each one written as a reference: what All makes of them; no program.
-/
import Derived.Test.YtgebdaanglmnnaaDoorReader
namespace Go.Proofs.YtgebdaanglmnnaaDoor
open Go.RowKit Utf
set_option linter.unusedVariables false

def AMPS : ByteArray := ⟨#[38, 97, 109, 112, 59]⟩
def AMPN : ByteArray := ⟨#[97, 109, 112, 59]⟩

/-- The first k bytes of s but the ampersands. -/
def bareF (s : ByteArray) : Nat → ByteArray
  | 0 => ⟨#[]⟩
  | k + 1 => if bt s k = 38 then bareF s k else bareF s k ++ s.extract k (k + 1)
/-- The first k bytes of s, each ampersand written as a reference. -/
def writF (s : ByteArray) : Nat → ByteArray
  | 0 => ⟨#[]⟩
  | k + 1 => if bt s k = 38 then writF s k ++ AMPS else writF s k ++ s.extract k (k + 1)

theorem bt_left (a b : ByteArray) {j : Nat} (h : j < a.size) : bt (a ++ b) j = bt a j := by
  unfold bt
  rw [List.getD_eq_getElem?_getD, List.getD_eq_getElem?_getD, show bytesOf (a ++ b) = bytesOf a ++ bytesOf b by simp [bytesOf], List.getElem?_append_left (by rw [bytes_len]; exact h)]
theorem bt_right (a b : ByteArray) (j : Nat) : bt (a ++ b) (a.size + j) = bt b j := by
  unfold bt
  rw [List.getD_eq_getElem?_getD, List.getD_eq_getElem?_getD, show bytesOf (a ++ b) = bytesOf a ++ bytesOf b by simp [bytesOf], List.getElem?_append_right (by rw [bytes_len]; omega), bytes_len, Nat.add_sub_cancel_left]

theorem one_size {s : ByteArray} {k : Nat} (h : k < s.size) : (s.extract k (k + 1)).size = 1 := by rw [ByteArray.size_extract]; omega
theorem one_bt {s : ByteArray} {k : Nat} (h : k < s.size) : bt (s.extract k (k + 1)) 0 = bt s k := by rw [bt_cut s k (k + 1) 0 (by omega) (by omega), Nat.add_zero]

theorem bare_size {s : ByteArray} : ∀ k, k ≤ s.size → (bareF s k).size ≤ k
  | 0, _ => Nat.le_refl _
  | k + 1, h => by
    have := bare_size (s := s) k (by omega)
    rw [bareF]
    split
    · omega
    · rw [cat_size, one_size (by omega)]
      omega

theorem bare_none {s : ByteArray} : ∀ k, k ≤ s.size → ∀ j, j < (bareF s k).size → ¬ bt (bareF s k) j = 38
  | 0, _, j, hj => absurd hj (Nat.not_lt_zero _)
  | k + 1, h, j, hj => by
    rw [bareF] at hj ⊢
    split
    · rename_i hb
      rw [if_pos hb] at hj
      exact bare_none k (by omega) j hj
    · rename_i hb
      rw [if_neg hb, cat_size, one_size (by omega)] at hj
      by_cases h1 : j < (bareF s k).size
      · rw [bt_left _ _ h1]
        exact bare_none k (by omega) j h1
      · rw [show j = (bareF s k).size + 0 by omega, bt_right, one_bt (by omega)]
        exact hb

theorem cut_whole (t : ByteArray) : t.extract 0 t.size = t := by
  refine ByteArray.ext ?_
  simp

theorem all_plain {t : ByteArray} (h : ∀ j, j < t.size → ¬ bt t j = 38) (attr : Bool) : allF t attr 0 = t := by
  have := allF_skip t attr t.size 0 (by omega) (fun j _ hj => h j (by omega))
  rw [Nat.zero_add, allF_end (Nat.le_refl _), cat_nil, cut_whole] at this
  exact this

theorem writ_size {s : ByteArray} : ∀ k, k ≤ s.size → (writF s k).size ≤ 5 * k
  | 0, _ => Nat.le_refl _
  | k + 1, h => by
    have := writ_size (s := s) k (by omega)
    rw [writF]
    split
    · rw [cat_size, show AMPS.size = 5 from rfl]
      omega
    · rw [cat_size, one_size (by omega)]
      omega

/-- What is written goes on. -/
theorem writ_more {s : ByteArray} (k : Nat) : ∀ d, (writF s k).size ≤ (writF s (k + d)).size ∧ ∀ j, j < (writF s k).size → bt (writF s (k + d)) j = bt (writF s k) j
  | 0 => ⟨Nat.le_refl _, fun j _ => rfl⟩
  | d + 1 => by
    obtain ⟨h1, h2⟩ := writ_more (s := s) k d
    rw [show k + (d + 1) = k + d + 1 by omega, writF]
    split
    · refine ⟨by rw [cat_size]; omega, fun j hj => ?_⟩
      rw [bt_left _ _ (by omega)]
      exact h2 j hj
    · refine ⟨by rw [cat_size]; omega, fun j hj => ?_⟩
      rw [bt_left _ _ (by omega)]
      exact h2 j hj

theorem nm_amp : ∀ x, x ∈ NM → 4 ≤ x.size → bt x 0 = 97 → bt x 1 = 109 → bt x 2 = 112 → bt x 3 = 59 → x = AMPN := by decide +kernel
theorem amp_in : AMPN ∈ NM := List.mem_of_getElem? (i := 12) (by kernel_rfl)

theorem pre_of {x t : ByteArray} (h : x.size ≤ t.size) (hb : ∀ j, j < x.size → bt t j = bt x j) : pre x t = true := by
  unfold pre
  rw [decide_eq_true h, Bool.true_and, list_eq, decide_eq_true_eq]
  refine bt_ext (by rw [ByteArray.size_extract]; omega) fun j hj => ?_
  rw [ByteArray.size_extract] at hj
  rw [bt_cut t 0 x.size j (by omega) h, Nat.zero_add]
  exact hb j (by omega)

theorem found_amp {t : ByteArray} (h : 4 ≤ t.size) (h0 : bt t 0 = 97) (h1 : bt t 1 = 109) (h2 : bt t 2 = 112) (h3 : bt t 3 = 59) : found t = AMPN := by
  obtain ⟨g1, g2, g3⟩ := longest t
  have hp : pre AMPN t = true := pre_of h fun j hj => by
    have hj4 : j < 4 := hj
    rcases (show j = 0 ∨ j = 1 ∨ j = 2 ∨ j = 3 by omega) with rfl | rfl | rfl | rfl
    · rw [h0]; decide
    · rw [h1]; decide
    · rw [h2]; decide
    · rw [h3]; decide
  have hz : 4 ≤ (found t).size := g3 _ amp_in hp
  rcases g2 with g2 | g2
  · rw [g2] at hz
    exact absurd hz (by decide)
  · exact nm_amp _ g2 hz ((pre_bt g1 (by omega)).trans h0) ((pre_bt g1 (by omega)).trans h1) ((pre_bt g1 (by omega)).trans h2) ((pre_bt g1 (by omega)).trans h3)

/-- An ampersand that is written as a reference is read as itself. -/
theorem read_amp {t : ByteArray} {p : Nat} (h : p + 5 ≤ t.size) (hb : ∀ j, j < 5 → bt t (p + j) = bt AMPS j) (attr : Bool) : bt t p = 38 ∧ rT t p attr = AMP ∧ rE t p = p + 5 := by
  have e0 := hb 0 (by omega)
  have e1 := hb 1 (by omega)
  have e2 := hb 2 (by omega)
  have e3 := hb 3 (by omega)
  have e4 := hb 4 (by omega)
  rw [show bt AMPS 0 = 38 by decide] at e0
  rw [show bt AMPS 1 = 97 by decide] at e1
  rw [show bt AMPS 2 = 109 by decide] at e2
  rw [show bt AMPS 3 = 112 by decide] at e3
  rw [show bt AMPS 4 = 59 by decide] at e4
  have hn : isN t p = false := isN_no (st_not 1 (by decide) (by rw [e1]; decide))
  have hz : (t.extract (p + 1) t.size).size = t.size - (p + 1) := by rw [ByteArray.size_extract]; omega
  have hf : nmAt t p = AMPN := by
    unfold nmAt
    refine found_amp (by omega) ?_ ?_ ?_ ?_
    all_goals rw [bt_cut t (p + 1) t.size _ (by omega) (Nat.le_refl _)]
    · exact e1
    · exact e2
    · exact e3
    · exact e4
  refine ⟨e0, ?_, ?_⟩
  · rw [rT_nam hn]
    unfold nT left
    rw [hf, show AMPN.size = 4 from rfl, e4]
    rw [if_neg (by omega), if_neg (by cases attr <;> simp)]
    kernel_rfl
  · rw [rE_nam hn, hf]
    rfl

/-- What is written is read as the text itself, from each byte on. -/
theorem all_writ (s : ByteArray) (attr : Bool) : ∀ d k, k + d = s.size → allF (writF s s.size) attr (writF s k).size = s.extract k s.size
  | 0, k, h => by
    obtain rfl : k = s.size := by omega
    rw [allF_end (Nat.le_refl _), cut_none]
  | d + 1, k, h => by
    have ih := all_writ s attr d (k + 1) (by omega)
    obtain ⟨m1, m2⟩ := writ_more (s := s) (k + 1) d
    rw [show k + 1 + d = s.size by omega] at m1 m2
    rw [← cut_cut s (q := k + 1) (by omega) (by omega) (Nat.le_refl _), ← ih]
    by_cases hb : bt s k = 38
    · have hw : writF s (k + 1) = writF s k ++ AMPS := by rw [writF, if_pos hb]
      have hz : (writF s (k + 1)).size = (writF s k).size + 5 := by rw [hw, cat_size]; rfl
      obtain ⟨r1, r2, r3⟩ := read_amp (t := writF s s.size) (p := (writF s k).size) (by omega) (fun j hj => by
        rw [m2 _ (by omega), hw, bt_right]) attr
      rw [allF_amp (by omega) r1, r2, r3, hz]
      congr 1
      refine bt_ext (by rw [one_size (by omega)]; rfl) fun j hj => ?_
      have hj1 : j < 1 := hj
      obtain rfl : j = 0 := by omega
      rw [one_bt (by omega), hb]
      decide
    · have hw : writF s (k + 1) = writF s k ++ s.extract k (k + 1) := by rw [writF, if_neg hb]
      have hz : (writF s (k + 1)).size = (writF s k).size + 1 := by rw [hw, cat_size, one_size (by omega)]
      have e1 : bt (writF s s.size) (writF s k).size = bt s k := by
        rw [m2 _ (by omega), hw, show (writF s k).size = (writF s k).size + 0 from rfl, bt_right, one_bt (by omega)]
      rw [allF_other (by omega) (by rw [e1]; exact hb), hz]
      congr 1
      refine bt_ext (by rw [one_size (by omega), one_size (by omega)]) fun j hj => ?_
      rw [one_size (by omega)] at hj
      obtain rfl : j = 0 := by omega
      rw [one_bt (by omega), one_bt (by omega), e1]

theorem all_back (s : ByteArray) (attr : Bool) : allF (writF s s.size) attr 0 = s := by
  have := all_writ s attr s.size 0 (by omega)
  rw [show (writF s 0).size = 0 from rfl, cut_whole] at this
  exact this

end Go.Proofs.YtgebdaanglmnnaaDoor
