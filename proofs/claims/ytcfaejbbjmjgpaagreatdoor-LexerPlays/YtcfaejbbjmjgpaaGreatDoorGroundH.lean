/-
  Joined: Bare Knows Ends.
-/
import Derived.Test.YtcfaejbbjmjgpaaGreatDoorReader
import Derived.Test.YtcfaejbbjmjgpaaGreatDoorRead
import Derived.Test.YtcfaejbbjmjgpaaGreatDoorGroundC

/-
  A text without its ampersands, and with each one written as a reference: what All makes of them; no program.
-/
namespace Go.Proofs.YtcfaejbbjmjgpaaGreatDoor
open Go.RowKit Utf
set_option linter.unusedVariables false

def AMPS : ByteArray := ⟨#[38, 97, 109, 112, 59]⟩
def AMPN : ByteArray := ⟨#[97, 109, 112, 59]⟩

/-- The first k bytes of s but the ampersands. -/
def bareF (s : ByteArray) : Nat → ByteArray
  | 0 => ⟨#[]⟩
  | k + 1 => if bt s k = 38 then bareF s k else bareF s k ++ s.extract k (k + 1)
/-- The first k bytes of s, each ampersand written as a reference. -/
def writF (s : ByteArray) : Nat → ByteArray
  | 0 => ⟨#[]⟩
  | k + 1 => if bt s k = 38 then writF s k ++ AMPS else writF s k ++ s.extract k (k + 1)

theorem bt_left (a b : ByteArray) {j : Nat} (h : j < a.size) : bt (a ++ b) j = bt a j := by
  unfold bt
  rw [List.getD_eq_getElem?_getD, List.getD_eq_getElem?_getD, show bytesOf (a ++ b) = bytesOf a ++ bytesOf b by simp [bytesOf], List.getElem?_append_left (by rw [bytes_len]; exact h)]
theorem bt_right (a b : ByteArray) (j : Nat) : bt (a ++ b) (a.size + j) = bt b j := by
  unfold bt
  rw [List.getD_eq_getElem?_getD, List.getD_eq_getElem?_getD, show bytesOf (a ++ b) = bytesOf a ++ bytesOf b by simp [bytesOf], List.getElem?_append_right (by rw [bytes_len]; omega), bytes_len, Nat.add_sub_cancel_left]

theorem one_size {s : ByteArray} {k : Nat} (h : k < s.size) : (s.extract k (k + 1)).size = 1 := by rw [ByteArray.size_extract]; omega
theorem one_bt {s : ByteArray} {k : Nat} (h : k < s.size) : bt (s.extract k (k + 1)) 0 = bt s k := by rw [bt_cut s k (k + 1) 0 (by omega) (by omega), Nat.add_zero]

theorem bare_size {s : ByteArray} : ∀ k, k ≤ s.size → (bareF s k).size ≤ k
  | 0, _ => Nat.le_refl _
  | k + 1, h => by
    have := bare_size (s := s) k (by omega)
    rw [bareF]
    split
    · omega
    · rw [cat_size, one_size (by omega)]
      omega

theorem bare_none {s : ByteArray} : ∀ k, k ≤ s.size → ∀ j, j < (bareF s k).size → ¬ bt (bareF s k) j = 38
  | 0, _, j, hj => absurd hj (Nat.not_lt_zero _)
  | k + 1, h, j, hj => by
    rw [bareF] at hj ⊢
    split
    · rename_i hb
      rw [if_pos hb] at hj
      exact bare_none k (by omega) j hj
    · rename_i hb
      rw [if_neg hb, cat_size, one_size (by omega)] at hj
      by_cases h1 : j < (bareF s k).size
      · rw [bt_left _ _ h1]
        exact bare_none k (by omega) j h1
      · rw [show j = (bareF s k).size + 0 by omega, bt_right, one_bt (by omega)]
        exact hb

theorem cut_whole (t : ByteArray) : t.extract 0 t.size = t := by
  refine ByteArray.ext ?_
  simp

theorem all_plain {t : ByteArray} (h : ∀ j, j < t.size → ¬ bt t j = 38) (attr : Bool) : allF t attr 0 = t := by
  have := allF_skip t attr t.size 0 (by omega) (fun j _ hj => h j (by omega))
  rw [Nat.zero_add, allF_end (Nat.le_refl _), cat_nil, cut_whole] at this
  exact this

theorem writ_size {s : ByteArray} : ∀ k, k ≤ s.size → (writF s k).size ≤ 5 * k
  | 0, _ => Nat.le_refl _
  | k + 1, h => by
    have := writ_size (s := s) k (by omega)
    rw [writF]
    split
    · rw [cat_size, show AMPS.size = 5 from rfl]
      omega
    · rw [cat_size, one_size (by omega)]
      omega

/-- What is written goes on. -/
theorem writ_more {s : ByteArray} (k : Nat) : ∀ d, (writF s k).size ≤ (writF s (k + d)).size ∧ ∀ j, j < (writF s k).size → bt (writF s (k + d)) j = bt (writF s k) j
  | 0 => ⟨Nat.le_refl _, fun j _ => rfl⟩
  | d + 1 => by
    obtain ⟨h1, h2⟩ := writ_more (s := s) k d
    rw [show k + (d + 1) = k + d + 1 by omega, writF]
    split
    · refine ⟨by rw [cat_size]; omega, fun j hj => ?_⟩
      rw [bt_left _ _ (by omega)]
      exact h2 j hj
    · refine ⟨by rw [cat_size]; omega, fun j hj => ?_⟩
      rw [bt_left _ _ (by omega)]
      exact h2 j hj

theorem nm_amp : ∀ x, x ∈ NM → 4 ≤ x.size → bt x 0 = 97 → bt x 1 = 109 → bt x 2 = 112 → bt x 3 = 59 → x = AMPN := by decide +kernel
theorem amp_in : AMPN ∈ NM := List.mem_of_getElem? (i := 12) (by kernel_rfl)

theorem pre_of {x t : ByteArray} (h : x.size ≤ t.size) (hb : ∀ j, j < x.size → bt t j = bt x j) : pre x t = true := by
  unfold pre
  rw [decide_eq_true h, Bool.true_and, list_eq, decide_eq_true_eq]
  refine bt_ext (by rw [ByteArray.size_extract]; omega) fun j hj => ?_
  rw [ByteArray.size_extract] at hj
  rw [bt_cut t 0 x.size j (by omega) h, Nat.zero_add]
  exact hb j (by omega)

theorem found_amp {t : ByteArray} (h : 4 ≤ t.size) (h0 : bt t 0 = 97) (h1 : bt t 1 = 109) (h2 : bt t 2 = 112) (h3 : bt t 3 = 59) : found t = AMPN := by
  obtain ⟨g1, g2, g3⟩ := longest t
  have hp : pre AMPN t = true := pre_of h fun j hj => by
    have hj4 : j < 4 := hj
    rcases (show j = 0 ∨ j = 1 ∨ j = 2 ∨ j = 3 by omega) with rfl | rfl | rfl | rfl
    · rw [h0]; decide
    · rw [h1]; decide
    · rw [h2]; decide
    · rw [h3]; decide
  have hz : 4 ≤ (found t).size := g3 _ amp_in hp
  rcases g2 with g2 | g2
  · rw [g2] at hz
    exact absurd hz (by decide)
  · exact nm_amp _ g2 hz ((pre_bt g1 (by omega)).trans h0) ((pre_bt g1 (by omega)).trans h1) ((pre_bt g1 (by omega)).trans h2) ((pre_bt g1 (by omega)).trans h3)

/-- An ampersand that is written as a reference is read as itself. -/
theorem read_amp {t : ByteArray} {p : Nat} (h : p + 5 ≤ t.size) (hb : ∀ j, j < 5 → bt t (p + j) = bt AMPS j) (attr : Bool) : bt t p = 38 ∧ rT t p attr = AMP ∧ rE t p = p + 5 := by
  have e0 := hb 0 (by omega)
  have e1 := hb 1 (by omega)
  have e2 := hb 2 (by omega)
  have e3 := hb 3 (by omega)
  have e4 := hb 4 (by omega)
  rw [show bt AMPS 0 = 38 by decide] at e0
  rw [show bt AMPS 1 = 97 by decide] at e1
  rw [show bt AMPS 2 = 109 by decide] at e2
  rw [show bt AMPS 3 = 112 by decide] at e3
  rw [show bt AMPS 4 = 59 by decide] at e4
  have hn : isN t p = false := isN_no (st_not 1 (by decide) (by rw [e1]; decide))
  have hz : (t.extract (p + 1) t.size).size = t.size - (p + 1) := by rw [ByteArray.size_extract]; omega
  have hf : nmAt t p = AMPN := by
    unfold nmAt
    refine found_amp (by omega) ?_ ?_ ?_ ?_
    all_goals rw [bt_cut t (p + 1) t.size _ (by omega) (Nat.le_refl _)]
    · exact e1
    · exact e2
    · exact e3
    · exact e4
  refine ⟨e0, ?_, ?_⟩
  · rw [rT_nam hn]
    unfold nT left
    rw [hf, show AMPN.size = 4 from rfl, e4]
    rw [if_neg (by omega), if_neg (by cases attr <;> simp)]
    kernel_rfl
  · rw [rE_nam hn, hf]
    rfl

/-- What is written is read as the text itself, from each byte on. -/
theorem all_writ (s : ByteArray) (attr : Bool) : ∀ d k, k + d = s.size → allF (writF s s.size) attr (writF s k).size = s.extract k s.size
  | 0, k, h => by
    obtain rfl : k = s.size := by omega
    rw [allF_end (Nat.le_refl _), cut_none]
  | d + 1, k, h => by
    have ih := all_writ s attr d (k + 1) (by omega)
    obtain ⟨m1, m2⟩ := writ_more (s := s) (k + 1) d
    rw [show k + 1 + d = s.size by omega] at m1 m2
    rw [← cut_cut s (q := k + 1) (by omega) (by omega) (Nat.le_refl _), ← ih]
    by_cases hb : bt s k = 38
    · have hw : writF s (k + 1) = writF s k ++ AMPS := by rw [writF, if_pos hb]
      have hz : (writF s (k + 1)).size = (writF s k).size + 5 := by rw [hw, cat_size]; rfl
      obtain ⟨r1, r2, r3⟩ := read_amp (t := writF s s.size) (p := (writF s k).size) (by omega) (fun j hj => by
        rw [m2 _ (by omega), hw, bt_right]) attr
      rw [allF_amp (by omega) r1, r2, r3, hz]
      congr 1
      refine bt_ext (by rw [one_size (by omega)]; rfl) fun j hj => ?_
      have hj1 : j < 1 := hj
      obtain rfl : j = 0 := by omega
      rw [one_bt (by omega), hb]
      decide
    · have hw : writF s (k + 1) = writF s k ++ s.extract k (k + 1) := by rw [writF, if_neg hb]
      have hz : (writF s (k + 1)).size = (writF s k).size + 1 := by rw [hw, cat_size, one_size (by omega)]
      have e1 : bt (writF s s.size) (writF s k).size = bt s k := by
        rw [m2 _ (by omega), hw, show (writF s k).size = (writF s k).size + 0 from rfl, bt_right, one_bt (by omega)]
      rw [allF_other (by omega) (by rw [e1]; exact hb), hz]
      congr 1
      refine bt_ext (by rw [one_size (by omega), one_size (by omega)]) fun j hj => ?_
      rw [one_size (by omega)] at hj
      obtain rfl : j = 0 := by omega
      rw [one_bt (by omega), one_bt (by omega), e1]

theorem all_back (s : ByteArray) (attr : Bool) : allF (writF s s.size) attr 0 = s := by
  have := all_writ s attr s.size 0 (by omega)
  rw [show (writF s 0).size = 0 from rfl, cut_whole] at this
  exact this

end Go.Proofs.YtcfaejbbjmjgpaaGreatDoor

/-
  Where a tag begins, and how many attributes it has.
-/
namespace Go.Proofs.YtcfaejbbjmjgpaaGreatDoor
open Go.RowKit Utf
set_option linter.unusedVariables false

theorem tag_none {s : ByteArray} {a : Int} (h : begF s a = (0, 0)) : tagF s a = (zt, a, false) := by unfold tagF; rw [h, if_pos rfl]

theorem tag_some {s : ByteArray} {a k : Int} {f : Nat} (h : begF s a = (k, f)) (hk : ¬ k = 0) : tagF s a = wholeF s k f := by unfold tagF; rw [h, if_neg hk]

/-- What a tag's list is, is not long. -/
theorem tag_len (s : ByteArray) (a : Int) : (tagF s a).1.2.2.1.length ≤ s.size := by
  unfold tagF
  split
  · exact Nat.zero_le _
  · unfold wholeF
    split
    · exact Nat.zero_le _
    split
    · have hb := beg_is s a
      rcases hb with ⟨_, h⟩ | ⟨_, h, _⟩
      · have h1 := in_len (s := s) (p := nameF s (begF s a).2) (name_is s (by rw [h]; exact Nat.zero_le _)).hi
        exact Nat.le_trans (uniq_len _) h1
      · have h1 := in_len (s := s) (p := nameF s (begF s a).2) (name_is s (Nat.le_of_lt h)).hi
        exact Nat.le_trans (uniq_len _) h1
    · exact Nat.zero_le _

end Go.Proofs.YtcfaejbbjmjgpaaGreatDoor

/-
  Tags by themselves: a tag that is told ends behind its sign, is right, and does not hang on what stands behind it; one without the sign is lost, with it told. No program.
-/
namespace Go.Proofs.YtcfaejbbjmjgpaaGreatDoor
open Go.RowKit Utf
set_option linter.unusedVariables false

/-- Where a value ends the tag. -/
theorem vF_two {s : ByteArray} {p : Nat} (h : (vF s p).2.2 = 2) : p < s.size ∨ s.size < p := by
  unfold vF at h
  split at h
  · cases h
  · omega

theorem vF_sign {s : ByteArray} {p : Nat} (hp : p ≤ s.size) (h : (vF s p).2.2 = 2) : p < s.size ∧ bt s p = 62 ∧ (vF s p).2.1 = p + 1 := by
  unfold vF at h ⊢
  by_cases h1 : p = s.size
  · rw [if_pos h1] at h; cases h
  rw [if_neg h1] at h ⊢
  by_cases h2 : bt s p = 62
  · rw [if_pos h2]
    exact ⟨by omega, h2, rfl⟩
  rw [if_neg h2] at h
  split at h
  · split at h <;> cases h
  split at h <;> cases h

theorem aF_sign {s : ByteArray} {p : Nat} (hp : p < s.size) (h : (aF s p).2.2 = 2) : bt s ((aF s p).2.1 - 1) = 62 := by
  unfold aF at h ⊢
  have hu := until_is s NE (p := p + 1) hp
  generalize untilF s NE (p + 1) = e at hu h ⊢
  by_cases h1 : e = s.size
  · rw [if_pos h1] at h; cases h
  rw [if_neg h1] at h ⊢
  have hk := skip_is s (p := e) hu.hi
  generalize skipF s e = k at hk h ⊢
  by_cases h2 : st s k EQ = false
  · rw [if_pos h2] at h; cases h
  rw [if_neg h2] at h ⊢
  have h3 : k < s.size := (eq_is.1 (by simpa using h2)).1
  have hj := skip_is s (p := k + 1) h3
  generalize skipF s (k + 1) = j at hj h ⊢
  by_cases h4 : (vF s j).2.2 = 0
  · rw [if_pos h4] at h; cases h
  · rw [if_neg h4] at h ⊢
    obtain ⟨g1, g2, g3⟩ := vF_sign hj.hi h
    show bt s ((vF s j).2.1 - 1) = 62
    rw [g3, Nat.add_sub_cancel]
    exact g2

/-- What is told ends behind its sign. -/
theorem rF_told (s : ByteArray) : ∀ (n p : Nat) (l : List Att), p ≤ s.size → ¬ (rF s n p l).2.2 = 0 → p < (rF s n p l).2.2 ∧ (rF s n p l).2.2 ≤ s.size ∧ bt s ((rF s n p l).2.2 - 1) = 62
  | 0, p, l, hp, h => absurd rfl h
  | n + 1, p, l, hp, h => by
    have hk := skip_is s hp
    unfold rF at h ⊢
    generalize skipF s p = q at hk h ⊢
    have l1 := hk.lo
    have l2 := hk.hi
    by_cases h1 : q = s.size
    · rw [if_pos h1] at h; exact absurd rfl h
    rw [if_neg h1] at h ⊢
    by_cases h2 : bt s q = 62
    · rw [if_pos h2]
      exact ⟨by show p < q + 1; omega, by show q + 1 ≤ _; omega, by show bt s (q + 1 - 1) = 62; rw [Nat.add_sub_cancel]; exact h2⟩
    rw [if_neg h2] at h ⊢
    by_cases h3 : st s q SG = true
    · rw [if_pos h3]
      obtain ⟨g1, g2, g3⟩ := sg_is.1 h3
      exact ⟨by show p < q + 2; omega, by show q + 2 ≤ _; omega, by show bt s (q + 2 - 1) = 62; rw [show q + 2 - 1 = q + 1 by omega]; exact g3⟩
    rw [if_neg h3] at h ⊢
    by_cases h4 : bt s q = 47
    · rw [if_pos h4] at h ⊢
      obtain ⟨g1, g2, g3⟩ := rF_told s n (q + 1) l (by omega) h
      exact ⟨by omega, g2, g3⟩
    rw [if_neg h4] at h ⊢
    obtain ⟨a1, a2, a3, a4⟩ := aF_goes (s := s) (p := q) (by omega)
    by_cases h5 : (aF s q).2.2 = 0
    · rw [if_pos h5] at h; exact absurd rfl h
    rw [if_neg h5] at h ⊢
    by_cases h6 : (aF s q).2.2 = 2
    · rw [if_pos h6]
      exact ⟨by show p < (aF s q).2.1; omega, a2, aF_sign (by omega) h6⟩
    rw [if_neg h6] at h ⊢
    obtain ⟨g1, g2, g3⟩ := rF_told s n (aF s q).2.1 _ a2 h
    exact ⟨by omega, g2, g3⟩

theorem in_told {s : ByteArray} {p : Nat} (hp : p ≤ s.size) (h : ¬ (inF s p []).2.2 = 0) : p < (inF s p []).2.2 ∧ (inF s p []).2.2 ≤ s.size ∧ bt s ((inF s p []).2.2 - 1) = 62 := rF_told s _ _ _ hp h

/-- Attributes have names. -/
theorem aF_named {s : ByteArray} {p : Nat} (hp : p < s.size) (h : ¬ (aF s p).2.2 = 0) : 0 < (aF s p).1.1.size := by
  unfold aF at h ⊢
  have hu := until_is s NE (p := p + 1) hp
  generalize untilF s NE (p + 1) = e at hu h ⊢
  have l1 := hu.lo
  have l2 := hu.hi
  have hz : 0 < (lower (s.extract p e)).size := by rw [lower_size, ByteArray.size_extract]; omega
  split at h
  · exact absurd rfl h
  next h1 =>
    rw [if_neg h1]
    split at h
    next h2 => rw [if_pos h2]; exact hz
    next h2 =>
      rw [if_neg h2]
      split at h
      · exact absurd rfl h
      next h3 => rw [if_neg h3]; exact hz

theorem rF_named (s : ByteArray) : ∀ (n p : Nat) (l : List Att), p ≤ s.size → (∀ a, a ∈ l → 0 < a.1.size) → ∀ a, a ∈ (rF s n p l).1 → 0 < a.1.size
  | 0, p, l, hp, hl => fun a ha => by simp [rF] at ha
  | n + 1, p, l, hp, hl => by
    have hk := skip_is s hp
    unfold rF
    generalize skipF s p = q at hk ⊢
    have l1 := hk.lo
    have l2 := hk.hi
    by_cases h1 : q = s.size
    · rw [if_pos h1]; exact fun a ha => by simp at ha
    rw [if_neg h1]
    split
    · exact hl
    split
    · exact hl
    split
    · exact rF_named s n (q + 1) l (by omega) hl
    obtain ⟨a1, a2, a3, a4⟩ := aF_goes (s := s) (p := q) (by omega)
    by_cases h5 : (aF s q).2.2 = 0
    · rw [if_pos h5]; exact fun a ha => by simp at ha
    rw [if_neg h5]
    have hl2 : ∀ a, a ∈ l ++ [(aF s q).1] → 0 < a.1.size := fun a ha => by
      rcases List.mem_append.1 ha with h | h
      · exact hl a h
      · simp only [List.mem_singleton] at h
        rw [h]
        exact aF_named (by omega) h5
    split
    · exact hl2
    · exact rF_named s n _ _ a2 hl2

theorem in_right {s : ByteArray} {p : Nat} (hp : p ≤ s.size) : areRight (uniq (inF s p []).1) = true := by
  have hn := rF_named s (s.size + 1 - p) p [] hp (fun a ha => by simp at ha)
  rw [show rF s (s.size + 1 - p) p [] = inF s p [] from rfl] at hn
  generalize (inF s p []).1 = l at hn
  unfold areRight
  rw [uniq_dist (dist_uniq l), hasN_uniq]
  have hg : hasN l ⟨#[]⟩ = false := by
    unfold hasN
    cases hx : getF l ⟨#[]⟩ with
    | none => rfl
    | some y =>
      have h1 := hn y (getF_mem hx)
      rw [getF_name hx] at h1
      exact absurd h1 (by decide)
  rw [hg]
  simp

theorem okB_low (x : Int) : okB (low x) = okB x := by
  unfold low
  split
  next h =>
    have e1 : okB (x + 32) = true := by unfold okB isSp; simp; omega
    have e2 : okB x = true := by unfold okB isSp; simp; omega
    rw [e1, e2]
  · rfl

theorem isLet_low (x : Int) : isLet (low x) = isLet x := by
  unfold low
  split
  next h =>
    have e1 : isLet (x + 32) = true := by unfold isLet; simp; omega
    have e2 : isLet x = true := by unfold isLet; simp; omega
    rw [e1, e2]
  · rfl

theorem okB_end {x : Int} (h : enN x = false) : okB x = true := by
  unfold enN at h
  unfold okB
  simp only [Bool.or_eq_false_iff] at h
  rw [h.1.1, h.1.2, h.2]
  rfl

theorem let_end {x : Int} (h : isLet x = true) : enN x = false := by
  cases hx : enN x with
  | false => rfl
  | true =>
    exfalso
    unfold enN isSp at hx
    unfold isLet at h
    simp at h hx
    omega

/-- A tag's name is a right one. -/
theorem name_right {s : ByteArray} {f : Nat} (hf : f < s.size) (hl : isLet (bt s f) = true) : f < nameF s f ∧ nameF s f ≤ s.size ∧ tagName (lower (s.extract f (nameF s f))) = true := by
  have h := name_is s (p := f) (Nat.le_of_lt hf)
  generalize nameF s f = t at h ⊢
  have l1 := h.lo
  have l2 := h.hi
  have hlt : f < t := by
    rcases Nat.lt_or_ge f t with g | g
    · exact g
    · obtain rfl : t = f := by omega
      have := h.at' hf
      rw [let_end hl] at this
      cases this
  refine ⟨hlt, l2, ?_⟩
  have hz : (s.extract f t).size = t - f := by rw [ByteArray.size_extract]; omega
  have hb : ∀ j, j < t - f → bt (lower (s.extract f t)) j = low (bt s (f + j)) := fun j hj => by rw [bt_low, bt_cut s f t j (by omega) l2]
  rw [tagName_low, lower_lower]
  · exact decide_eq_true rfl
  · rw [hb 0 (by omega), isLet_low]
    exact hl
  · intro j hj
    rw [lower_size, hz] at hj
    rw [hb j hj, okB_low]
    exact okB_end (h.no (f + j) (by omega) (by omega))

/-- A tag that is told is right. -/
theorem whole_right {s : ByteArray} {k : Int} {f : Nat} (hk : k = 2 ∨ k = 3) (hf : f < s.size) (hl : isLet (bt s f) = true) (h : (wholeF s k f).2.2 = true) : right (wholeF s k f).1 = true := by
  obtain ⟨g1, g2, g3⟩ := name_right hf hl
  have hr := in_right (s := s) g2
  unfold wholeF at h ⊢
  generalize nameF s f = t at h g1 g2 g3 hr ⊢
  by_cases h1 : (inF s t []).2.2 = 0
  · rw [if_pos h1] at h; cases h
  rw [if_neg h1]
  rcases hk with rfl | rfl
  · rw [if_pos rfl]
    unfold right
    rw [if_neg (by show ¬ (2 : Int) = 1; decide), if_pos rfl]
    show (tagName (lower (s.extract f t)) && areRight (uniq (inF s t []).1) && eqs ⟨#[]⟩ ⟨#[]⟩) = true
    rw [g3, hr, eqs_refl]
    rfl
  · rw [if_neg (by decide)]
    unfold right
    rw [if_neg (by show ¬ (3 : Int) = 1; decide), if_neg (by show ¬ (3 : Int) = 2; decide), if_pos rfl]
    show (tagName (lower (s.extract f t)) && decide _) = true
    rw [g3]
    simp

/-- Two texts that are the same up to n. -/
structure Agr (s t : ByteArray) (n : Nat) : Prop where
  hs : n ≤ s.size
  ht : n ≤ t.size
  at' : ∀ j, j < n → bt s j = bt t j

theorem fs_agr {f g : Nat → Bool} {p S T r n : Nat} (hp : p ≤ S) (h : fs f p S = r) (hr : r < n) (hS : n ≤ S) (hT : n ≤ T) (he : ∀ j, j < n → f j = g j) : fs g p T = r := by
  have h1 := fs_is f hp
  rw [h] at h1
  exact fs_eq ⟨h1.lo, by omega, fun j a b => by rw [← he j (by omega)]; exact h1.no j a b, fun _ => by rw [← he r hr]; exact h1.at' (by omega)⟩

theorem Agr.skip {s t : ByteArray} {n p q : Nat} (h : Agr s t n) (hp : p ≤ s.size) (hq : skipF s p = q) (hn : q < n) : skipF t p = q :=
  fs_agr hp hq hn h.hs h.ht (fun j hj => by rw [h.at' j hj])
theorem Agr.until {s t : ByteArray} {n p q : Nat} (h : Agr s t n) (set : ByteArray) (hp : p ≤ s.size) (hq : untilF s set p = q) (hn : q < n) : untilF t set p = q :=
  fs_agr hp hq hn h.hs h.ht (fun j hj => by rw [h.at' j hj])
theorem Agr.byB {s t : ByteArray} {n p q : Nat} (h : Agr s t n) (c : Int) (hp : p ≤ s.size) (hq : byF s c p = q) (hn : q < n) : byF t c p = q :=
  fs_agr hp hq hn h.hs h.ht (fun j hj => by rw [h.at' j hj])
theorem Agr.name {s t : ByteArray} {n p q : Nat} (h : Agr s t n) (hp : p ≤ s.size) (hq : nameF s p = q) (hn : q < n) : nameF t p = q :=
  fs_agr hp hq hn h.hs h.ht (fun j hj => by rw [h.at' j hj])
theorem Agr.cut {s t : ByteArray} {n p q : Nat} (h : Agr s t n) (hq : q ≤ n) : t.extract p q = s.extract p q := by
  have := h.hs
  have := h.ht
  refine bt_ext (by rw [ByteArray.size_extract, ByteArray.size_extract]; omega) fun j hj => ?_
  rw [ByteArray.size_extract] at hj
  rw [bt_cut t p q j (by omega) (by omega), bt_cut s p q j (by omega) (by omega)]
  exact (h.at' _ (by omega)).symm
theorem Agr.eq {s t : ByteArray} {n p : Nat} (h : Agr s t n) (hp : p < n) : st t p EQ = st s p EQ := by
  have := h.hs
  have := h.ht
  rw [Bool.eq_iff_iff, eq_is, eq_is, h.at' p hp]
  constructor <;> rintro ⟨_, h2⟩ <;> exact ⟨by omega, h2⟩
theorem Agr.sg {s t : ByteArray} {n p : Nat} (h : Agr s t n) (hp : p + 1 < n) : st t p SG = st s p SG := by
  have := h.hs
  have := h.ht
  rw [Bool.eq_iff_iff, sg_is, sg_is, h.at' p (by omega), h.at' (p + 1) hp]
  constructor <;> rintro ⟨_, h2⟩ <;> exact ⟨by omega, h2⟩

theorem vF_agr {s t : ByteArray} {n p : Nat} (h : Agr s t n) (hp : p < n) (h0 : ¬ (vF s p).2.2 = 0) (h1 : (vF s p).2.1 ≤ n) (h2 : (vF s p).2.2 = 1 → (vF s p).2.1 < n) : vF t p = vF s p := by
  have k1 := h.hs
  have k2 := h.ht
  have hb := h.at' p hp
  unfold vF at h0 h1 h2 ⊢
  rw [if_neg (by omega)] at h0 h1 h2
  rw [if_neg (by omega : ¬ p = t.size), if_neg (by omega : ¬ p = s.size), ← hb]
  by_cases h3 : bt s p = 62
  · rw [if_pos h3, if_pos h3]
  rw [if_neg h3] at h0 h1 h2
  rw [if_neg h3, if_neg h3]
  by_cases h4 : bt s p = 34 ∨ bt s p = 39
  · rw [if_pos h4] at h0 h1 h2
    rw [if_pos h4, if_pos h4]
    by_cases h5 : byF s (bt s p) (p + 1) = s.size
    · rw [if_pos h5] at h0; exact absurd rfl h0
    rw [if_neg h5] at h1
    obtain ⟨q, hq⟩ : ∃ q, byF s (bt s p) (p + 1) = q := ⟨_, rfl⟩
    have hq1 : q + 1 ≤ n := by rw [hq] at h1; exact h1
    rw [h.byB _ (by omega) hq (by omega), hq, if_neg (by omega), if_neg (by omega), h.cut (by omega)]
  · rw [if_neg h4] at h0 h1 h2
    rw [if_neg h4, if_neg h4]
    by_cases h5 : untilF s VE p = s.size
    · rw [if_pos h5] at h0; exact absurd rfl h0
    rw [if_neg h5] at h2
    obtain ⟨q, hq⟩ : ∃ q, untilF s VE p = q := ⟨_, rfl⟩
    have hq1 : q < n := by rw [hq] at h2; exact h2 rfl
    rw [h.until VE (by omega) hq hq1, hq, if_neg (by omega), if_neg (by omega), h.cut (by omega)]

theorem aF_agr {s t : ByteArray} {n p : Nat} (h : Agr s t n) (hp : p < n) (h0 : ¬ (aF s p).2.2 = 0) (h1 : (aF s p).2.1 ≤ n) (h2 : (aF s p).2.2 = 1 → (aF s p).2.1 < n) : aF t p = aF s p := by
  have k1 := h.hs
  have k2 := h.ht
  have hps : p < s.size := by omega
  unfold aF at h0 h1 h2 ⊢
  obtain ⟨e, he⟩ : ∃ e, untilF s NE (p + 1) = e := ⟨_, rfl⟩
  have hu := until_is s NE (p := p + 1) hps
  rw [he] at h0 h1 h2 hu
  rw [he]
  have u1 := hu.lo
  have u2 := hu.hi
  by_cases h3 : e = s.size
  · rw [if_pos h3] at h0; exact absurd rfl h0
  rw [if_neg h3] at h0 h1 h2
  rw [if_neg h3]
  obtain ⟨k, hk⟩ : ∃ k, skipF s e = k := ⟨_, rfl⟩
  have hkk := skip_is s (p := e) u2
  rw [hk] at h0 h1 h2 hkk
  rw [hk]
  have v1 := hkk.lo
  have v2 := hkk.hi
  by_cases h4 : st s k EQ = false
  · rw [if_pos h4] at h0 h1 h2
    rw [if_pos h4]
    have hkn : k < n := h2 rfl
    rw [h.until NE hps he (by omega), if_neg (by omega), h.skip u2 hk hkn, h.eq hkn, if_pos h4, h.cut (by omega)]
  rw [if_neg h4] at h0 h1 h2
  rw [if_neg h4]
  have h5 : k < s.size := (eq_is.1 (by simpa using h4)).1
  obtain ⟨j, hj⟩ : ∃ j, skipF s (k + 1) = j := ⟨_, rfl⟩
  have hjj := skip_is s (p := k + 1) h5
  rw [hj] at h0 h1 h2 hjj
  rw [hj]
  have w1 := hjj.lo
  have w2 := hjj.hi
  by_cases h6 : (vF s j).2.2 = 0
  · rw [if_pos h6] at h0; exact absurd rfl h0
  rw [if_neg h6] at h0 h1 h2
  rw [if_neg h6]
  simp only at h0 h1 h2
  obtain ⟨g1, g2, g3, g4⟩ := vF_goes (s := s) (p := j) w2
  have hjn : j < n := by
    rcases g3 with g | g | g
    · exact absurd g h6
    · have := h2 g
      omega
    · have := (vF_sign w2 g).2.2
      omega
  have hv := vF_agr h hjn h6 h1 h2
  have hkn : k < n := by omega
  rw [h.until NE hps he (by omega), if_neg (by omega), h.skip u2 hk hkn, h.eq hkn, if_neg h4, h.skip (by omega) hj hjn, hv, if_neg h6, h.cut (by omega)]

theorem rF_agr {s t : ByteArray} {n : Nat} (h : Agr s t n) : ∀ (m p : Nat) (l : List Att), p ≤ s.size → ¬ (rF s m p l).2.2 = 0 → (rF s m p l).2.2 ≤ n → rF t m p l = rF s m p l
  | 0, p, l, hp, h0, h1 => absurd rfl h0
  | m + 1, p, l, hp, h0, h1 => by
    have k1 := h.hs
    have k2 := h.ht
    have hk := skip_is s hp
    unfold rF at h0 h1 ⊢
    obtain ⟨q, hq⟩ : ∃ q, skipF s p = q := ⟨_, rfl⟩
    rw [hq] at h0 h1 hk
    rw [hq]
    have l1 := hk.lo
    have l2 := hk.hi
    by_cases c1 : q = s.size
    · rw [if_pos c1] at h0; exact absurd rfl h0
    rw [if_neg c1] at h0 h1
    rw [if_neg c1]
    by_cases c2 : bt s q = 62
    · rw [if_pos c2] at h1
      rw [if_pos c2]
      have hqn : q < n := h1
      rw [h.skip hp hq hqn, if_neg (by omega), ← h.at' q hqn, if_pos c2]
    rw [if_neg c2] at h0 h1
    rw [if_neg c2]
    by_cases c3 : st s q SG = true
    · rw [if_pos c3] at h1
      rw [if_pos c3]
      have hqn : q + 2 ≤ n := h1
      rw [h.skip hp hq (by omega), if_neg (by omega), ← h.at' q (by omega), if_neg c2, h.sg (by omega), if_pos c3]
    rw [if_neg c3] at h0 h1
    rw [if_neg c3]
    by_cases c4 : bt s q = 47
    · rw [if_pos c4] at h0 h1
      rw [if_pos c4]
      obtain ⟨g1, g2, g3⟩ := rF_told s m (q + 1) l (by omega) h0
      rw [h.skip hp hq (by omega), if_neg (by omega), ← h.at' q (by omega), if_neg c2, h.sg (by omega), if_neg c3, if_pos c4]
      exact rF_agr h m (q + 1) l (by omega) h0 h1
    rw [if_neg c4] at h0 h1
    rw [if_neg c4]
    have hlq : q < s.size := by omega
    obtain ⟨a1, a2, a3, a4⟩ := aF_goes hlq
    have hsg : ∀ (hqn : q < n), ¬ st t q SG = true := fun hqn e => c4 (by rw [h.at' q hqn]; exact (sg_is.1 e).2.1)
    by_cases c5 : (aF s q).2.2 = 0
    · rw [if_pos c5] at h0; exact absurd rfl h0
    rw [if_neg c5] at h0 h1
    rw [if_neg c5]
    by_cases c6 : (aF s q).2.2 = 2
    · rw [if_pos c6] at h1
      rw [if_pos c6]
      have hqn : (aF s q).2.1 ≤ n := h1
      rw [h.skip hp hq (by omega), if_neg (by omega), ← h.at' q (by omega), if_neg c2, if_neg (hsg (by omega)), if_neg c4, aF_agr h (by omega) c5 hqn (fun e => by rw [c6] at e; exact absurd e (by decide)), if_neg c5, if_pos c6]
    · rw [if_neg c6] at h0 h1
      rw [if_neg c6]
      obtain ⟨g1, g2, g3⟩ := rF_told s m (aF s q).2.1 _ a2 h0
      rw [h.skip hp hq (by omega), if_neg (by omega), ← h.at' q (by omega), if_neg c2, if_neg (hsg (by omega)), if_neg c4, aF_agr h (by omega) c5 (by omega) (fun _ => by omega), if_neg c5, if_neg c6]
      exact rF_agr h m _ _ a2 h0 h1

theorem in_agr {s t : ByteArray} {n p : Nat} (h : Agr s t n) (hp : p ≤ s.size) (hpt : p ≤ t.size) (h0 : ¬ (inF s p []).2.2 = 0) (h1 : (inF s p []).2.2 ≤ n) : inF t p [] = inF s p [] := by
  have e1 : inF s p [] = rF s (s.size + t.size + 1) p [] := rF_same s _ _ p [] hp (Nat.le_refl _) (by omega)
  have e2 : inF t p [] = rF t (s.size + t.size + 1) p [] := rF_same t _ _ p [] hpt (Nat.le_refl _) (by omega)
  rw [e1] at h0 h1
  rw [e1, e2]
  exact rF_agr h _ p [] hp h0 h1

/-- A tag that is told does not hang on what stands behind it. -/
theorem whole_agr {s t : ByteArray} {n f : Nat} {k : Int} (h : Agr s t n) (hf : f ≤ s.size) (h0 : (wholeF s k f).2.2 = true) (h1 : (wholeF s k f).2.1 ≤ n) : wholeF t k f = wholeF s k f := by
  have k1 := h.hs
  have k2 := h.ht
  have hn := name_is s hf
  unfold wholeF at h0 h1 ⊢
  obtain ⟨q, hq⟩ : ∃ q, nameF s f = q := ⟨_, rfl⟩
  rw [hq] at h0 h1 hn
  rw [hq]
  have l1 := hn.lo
  have l2 := hn.hi
  by_cases c1 : (inF s q []).2.2 = 0
  · rw [if_pos c1] at h0; cases h0
  rw [if_neg c1] at h0 h1
  rw [if_neg c1]
  have h2 : (inF s q []).2.2 ≤ n := by
    split at h1
    · have : (((inF s q []).2.2 : Nat) : Int) ≤ n := h1
      omega
    · have : (((inF s q []).2.2 : Nat) : Int) ≤ n := h1
      omega
  obtain ⟨g1, g2, g3⟩ := in_told l2 c1
  rw [h.name hf hq (by omega), in_agr h l2 (by omega) c1 h2, if_neg c1, h.cut (by omega)]

/-- What is told of a whole tag. -/
theorem whole_told {s : ByteArray} {k : Int} {f : Nat} (hf : f < s.size) (hl : isLet (bt s f) = true) : (wholeF s k f = (zt, (s.size : Int), false)) ∨ (∃ e : Nat, (wholeF s k f).2 = ((e : Int), true) ∧ f + 2 ≤ e ∧ e ≤ s.size ∧ bt s (e - 1) = 62) := by
  obtain ⟨g1, g2, g3⟩ := name_right hf hl
  unfold wholeF
  generalize nameF s f = q at g1 g2
  by_cases c1 : (inF s q []).2.2 = 0
  · rw [if_pos c1]; exact Or.inl rfl
  · rw [if_neg c1]
    obtain ⟨a1, a2, a3⟩ := in_told g2 c1
    refine Or.inr ⟨(inF s q []).2.2, ?_, by omega, a2, a3⟩
    split <;> rfl

theorem agr_cut (t m : ByteArray) {e : Nat} (he : e ≤ t.size) : Agr t (t.extract 0 e ++ m) e := by
  have hz : (t.extract 0 e).size = e := by rw [ByteArray.size_extract]; omega
  refine ⟨he, by rw [cat_size, hz]; omega, fun j hj => ?_⟩
  rw [bt_left _ _ (by omega), bt_cut t 0 e j (by omega) he, Nat.zero_add]

theorem fits_uniq {l : List Att} (h : fits l) : fits (uniq l) := fits_more l (fun a ha => by simp at ha) h

end Go.Proofs.YtcfaejbbjmjgpaaGreatDoor
