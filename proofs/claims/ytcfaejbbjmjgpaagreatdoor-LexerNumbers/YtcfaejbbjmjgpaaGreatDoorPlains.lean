/-
  What All gathers of texts of some forms: without a less-than sign; written as references; behind a raw start, and behind plaintext. No program.
-/
import Derived.Test.YtcfaejbbjmjgpaaGreatDoorLexs
namespace Go.Proofs.YtcfaejbbjmjgpaaGreatDoor
open Go.RowKit Utf
set_option linter.unusedVariables false

theorem nextF_end {s last : ByteArray} {md : Int} {fg : Bool} {p : Nat} (h : s.size ≤ p) : nextF s md fg last p = (eofT, p, md, last) := by unfold nextF; rw [if_pos h]
theorem nextF_data {s last : ByteArray} {fg : Bool} {p : Nat} (h : p < s.size) : nextF s 1 fg last p = ((datF s fg last (s.size + 1) p).1, (datF s fg last (s.size + 1) p).2.1, 1, (datF s fg last (s.size + 1) p).2.2) := by unfold nextF; rw [if_neg (by omega), if_pos rfl]
theorem nextF_clo {s last : ByteArray} {md : Int} {fg : Bool} {p : Nat} (h : p < s.size) (hm : md = 2 ∨ md = 3) (hc : clo s last p = true) : nextF s md fg last p = ((tgF s last p).1, (tgF s last p).2.1, 1, (tgF s last p).2.2) := by unfold nextF; rw [if_neg (by omega), if_neg (by omega), if_pos ⟨hm, hc⟩]
theorem nextF_text {s last : ByteArray} {md : Int} {fg : Bool} {p : Nat} (h : p < s.size) (h1 : ¬ md = 1) (hc : ¬ ((md = 2 ∨ md = 3) ∧ clo s last p = true)) : nextF s md fg last p = (txT (tT s md p (tE s md last p)), tE s md last p, md, last) := by unfold nextF; rw [if_neg (by omega), if_neg h1, if_neg hc]

theorem alT_end {s last : ByteArray} {n p : Nat} {md : Int} {T : Tok × Nat × Int × ByteArray} (hT : nextF s md false last p = T) (h : T.1.1 = 6) : alT s (n + 1) p md last = [T.1] := by
  unfold alT
  rw [hT, if_pos h]
theorem alT_start {s last : ByteArray} {n p : Nat} {md : Int} {T : Tok × Nat × Int × ByteArray} (hT : nextF s md false last p = T) (h : T.1.1 = 2) : alT s (n + 1) p md last = T.1 :: alT s n T.2.1 (raw T.1.2.1 false) T.2.2.2 := by
  conv => lhs; unfold alT
  rw [hT, if_neg (by rw [h]; decide), if_pos h]
theorem alT_else {s last : ByteArray} {n p : Nat} {md : Int} {T : Tok × Nat × Int × ByteArray} (hT : nextF s md false last p = T) (h : ¬ T.1.1 = 6) (h2 : ¬ T.1.1 = 2) : alT s (n + 1) p md last = T.1 :: alT s n T.2.1 T.2.2.1 T.2.2.2 := by
  conv => lhs; unfold alT
  rw [hT, if_neg h, if_neg h2]

theorem beg_none {s : ByteArray} {p : Nat} (h : ¬ bt s p = 60) : (begF s (p : Int)).1 = 0 ∧ begM s p = false := by
  constructor
  · by_cases g : (begF s (p : Int)).1 = 0
    · exact g
    · exact absurd (beg_lt g).2 h
  · cases g : begM s p with
    | false => rfl
    | true => exact absurd (begM_is g).2.1 h

/-- A text in Data at whose place and behind which no sign stands. -/
theorem next_rest {s last : ByteArray} {fg : Bool} {p : Nat} (hp : p < s.size) (h : ∀ j, p ≤ j → j < s.size → ¬ bt s j = 60) : nextF s 1 fg last p = (txT (allF (s.extract p s.size) false 0), s.size, 1, last) := by
  obtain ⟨b1, b2⟩ := beg_none (h p (Nat.le_refl _) hp)
  have he : tE s 1 last p = s.size := fs_eq ⟨hp, Nat.le_refl _, fun j g1 g2 => by
    unfold enF
    rw [if_pos rfl]
    unfold bgs
    obtain ⟨c1, c2⟩ := beg_none (h j (by omega) g2)
    rw [c1, c2]
    rfl, fun g => by omega⟩
  rw [nextF_data hp]
  have hd : datF s fg last (s.size + 1) p = (txT (tT s 1 p (tE s 1 last p)), tE s 1 last p, last) := by
    unfold datF
    rw [if_neg (by omega), if_neg (by simpa using b1), if_neg (by rw [b2]; simp)]
  rw [hd, he]
  unfold tT
  rw [if_pos (Or.inl rfl)]

theorem nil_all : allT ⟨#[]⟩ = [eofT] := by decide +kernel

theorem plain_all {s : ByteArray} (hp : 0 < s.size) (h : ∀ j, j < s.size → ¬ bt s j = 60) : allT s = [txT (allF s false 0), eofT] := by
  have h1 := next_rest (last := ⟨#[]⟩) (fg := false) hp (fun j _ g => h j g)
  rw [cut_whole] at h1
  obtain ⟨n, hn⟩ : ∃ n, s.size = n + 1 := ⟨s.size - 1, by omega⟩
  unfold allT
  rw [alT_else h1 (by show ¬ (4 : Int) = 6; decide) (by show ¬ (4 : Int) = 2; decide)]
  show _ :: alT s s.size s.size 1 ⟨#[]⟩ = _
  have h2 := nextF_end (s := s) (last := ⟨#[]⟩) (md := 1) (fg := false) (Nat.le_refl s.size)
  conv => lhs; rw [show alT s s.size s.size 1 ⟨#[]⟩ = alT s (n + 1) s.size 1 ⟨#[]⟩ by rw [hn]]
  rw [alT_end h2 rfl]

def LTS : ByteArray := ⟨#[38, 108, 116, 59]⟩
def LTN : ByteArray := ⟨#[108, 116, 59]⟩
theorem nm_lt : ∀ x, x ∈ NM → 3 ≤ x.size → bt x 0 = 108 → bt x 1 = 116 → bt x 2 = 59 → x = LTN := by decide +kernel
theorem lt_in : LTN ∈ NM := List.mem_of_getElem? (i := 27) (by kernel_rfl)

theorem found_lt {t : ByteArray} (h : 3 ≤ t.size) (h0 : bt t 0 = 108) (h1 : bt t 1 = 116) (h2 : bt t 2 = 59) : found t = LTN := by
  obtain ⟨g1, g2, g3⟩ := longest t
  have hp : pre LTN t = true := pre_of h fun j hj => by
    have hj4 : j < 3 := hj
    rcases (show j = 0 ∨ j = 1 ∨ j = 2 by omega) with rfl | rfl | rfl
    · rw [h0]; decide
    · rw [h1]; decide
    · rw [h2]; decide
  have hz : 3 ≤ (found t).size := g3 _ lt_in hp
  rcases g2 with g2 | g2
  · rw [g2] at hz
    exact absurd hz (by decide)
  · exact nm_lt _ g2 hz ((pre_bt g1 (by omega)).trans h0) ((pre_bt g1 (by omega)).trans h1) ((pre_bt g1 (by omega)).trans h2)

/-- A less-than sign that is written as a reference is read as itself. -/
theorem read_lt {t : ByteArray} {p : Nat} (h : p + 4 ≤ t.size) (hb : ∀ j, j < 4 → bt t (p + j) = bt LTS j) (attr : Bool) : bt t p = 38 ∧ rT t p attr = ⟨#[60]⟩ ∧ rE t p = p + 4 := by
  have e0 := hb 0 (by omega)
  have e1 := hb 1 (by omega)
  have e2 := hb 2 (by omega)
  have e3 := hb 3 (by omega)
  rw [show bt LTS 0 = 38 by decide] at e0
  rw [show bt LTS 1 = 108 by decide] at e1
  rw [show bt LTS 2 = 116 by decide] at e2
  rw [show bt LTS 3 = 59 by decide] at e3
  have hn : isN t p = false := isN_no (st_not 1 (by decide) (by rw [e1]; decide))
  have hz : (t.extract (p + 1) t.size).size = t.size - (p + 1) := by rw [ByteArray.size_extract]; omega
  have hf : nmAt t p = LTN := by
    unfold nmAt
    refine found_lt (by omega) ?_ ?_ ?_
    all_goals rw [bt_cut t (p + 1) t.size _ (by omega) (Nat.le_refl _)]
    · exact e1
    · exact e2
    · exact e3
  refine ⟨e0, ?_, ?_⟩
  · rw [rT_nam hn]
    unfold nT left
    rw [hf, show LTN.size = 3 from rfl, e3]
    rw [if_neg (by omega), if_neg (by cases attr <;> simp)]
    kernel_rfl
  · rw [rE_nam hn, hf]
    rfl

/-- The byte at k as it is written. -/
def wr2 (s : ByteArray) (k : Nat) : ByteArray := if bt s k = 60 then LTS else if bt s k = 38 then AMPS else s.extract k (k + 1)
/-- The first k bytes, written so. -/
def w2 (s : ByteArray) : Nat → ByteArray
  | 0 => ⟨#[]⟩
  | k + 1 => w2 s k ++ wr2 s k

theorem wr2_size {s : ByteArray} {k : Nat} (h : k < s.size) : 1 ≤ (wr2 s k).size ∧ (wr2 s k).size ≤ 5 := by
  unfold wr2
  split
  · decide
  split
  · decide
  · rw [one_size h]; omega
theorem w2_size {s : ByteArray} : ∀ k, k ≤ s.size → k ≤ (w2 s k).size ∧ (w2 s k).size ≤ 5 * k
  | 0, _ => ⟨Nat.le_refl _, Nat.le_refl _⟩
  | k + 1, h => by
    have h1 := w2_size (s := s) k (by omega)
    have h2 := wr2_size (s := s) (k := k) (by omega)
    rw [w2, cat_size]
    omega

theorem wr2_none {s : ByteArray} {k : Nat} (h : k < s.size) : ∀ j, j < (wr2 s k).size → ¬ bt (wr2 s k) j = 60 := by
  have ha : ∀ j, j < AMPS.size → ¬ bt AMPS j = 60 := by decide +kernel
  have hq : ∀ j, j < LTS.size → ¬ bt LTS j = 60 := by decide +kernel
  unfold wr2
  split
  · exact hq
  split
  · exact ha
  next h1 h2 =>
    intro j hj
    rw [one_size h] at hj
    obtain rfl : j = 0 := by omega
    rw [one_bt h]
    exact h1

theorem w2_none {s : ByteArray} : ∀ k, k ≤ s.size → ∀ j, j < (w2 s k).size → ¬ bt (w2 s k) j = 60
  | 0, _ => fun j hj => absurd hj (Nat.not_lt_zero _)
  | k + 1, h => by
    intro j hj
    rw [w2] at hj ⊢
    rw [cat_size] at hj
    rcases Nat.lt_or_ge j (w2 s k).size with g | g
    · rw [bt_left _ _ g]
      exact w2_none k (by omega) j g
    · obtain ⟨i, rfl⟩ : ∃ i, j = (w2 s k).size + i := ⟨j - (w2 s k).size, by omega⟩
      rw [bt_right]
      exact wr2_none (by omega) i (by omega)

theorem w2_more {s : ByteArray} (k : Nat) : ∀ d, (w2 s k).size ≤ (w2 s (k + d)).size ∧ ∀ j, j < (w2 s k).size → bt (w2 s (k + d)) j = bt (w2 s k) j
  | 0 => ⟨Nat.le_refl _, fun j _ => rfl⟩
  | d + 1 => by
    obtain ⟨h1, h2⟩ := w2_more (s := s) k d
    rw [show k + (d + 1) = k + d + 1 by omega, w2]
    refine ⟨by rw [cat_size]; omega, fun j hj => ?_⟩
    rw [bt_left _ _ (by omega)]
    exact h2 j hj

theorem read_two {s t : ByteArray} {k p : Nat} (h : k < s.size) (hp : p + (wr2 s k).size ≤ t.size) (hb : ∀ j, j < (wr2 s k).size → bt t (p + j) = bt (wr2 s k) j) : allF t false p = s.extract k (k + 1) ++ allF t false (p + (wr2 s k).size) := by
  have one : ∀ c : UInt8, bt s k = (c.toNat : Int) → (⟨#[c]⟩ : ByteArray) = s.extract k (k + 1) := fun c hc => by
    refine bt_ext (by rw [one_size h]; rfl) fun j hj => ?_
    have hj1 : j < 1 := hj
    obtain rfl : j = 0 := by omega
    rw [one_bt h, hc]
    exact bt_at ⟨#[c]⟩ 0 (Nat.zero_lt_one)
  unfold wr2 at hp hb ⊢
  by_cases h1 : bt s k = 60
  · rw [if_pos h1] at hp hb ⊢
    obtain ⟨r1, r2, r3⟩ := read_lt (t := t) (p := p) hp hb false
    have hlt : p < t.size := by have : LTS.size = 4 := rfl; omega
    rw [allF_amp hlt r1, r2, r3, one 60 h1]
    rfl
  rw [if_neg h1] at hp hb ⊢
  by_cases h2 : bt s k = 38
  · rw [if_pos h2] at hp hb ⊢
    obtain ⟨r1, r2, r3⟩ := read_amp (t := t) (p := p) hp hb false
    have hlt : p < t.size := by have : AMPS.size = 5 := rfl; omega
    rw [allF_amp hlt r1, r2, r3, show AMP = s.extract k (k + 1) from one 38 h2]
    rfl
  rw [if_neg h2] at hp hb ⊢
  rw [one_size h] at hp hb ⊢
  have e1 : bt t p = bt s k := by
    have := hb 0 (by omega)
    rw [Nat.add_zero, one_bt h] at this
    exact this
  rw [allF_other (by omega) (by rw [e1]; exact h2)]
  congr 1
  refine bt_ext (by rw [one_size (by omega), one_size h]) fun j hj => ?_
  rw [one_size (by omega)] at hj
  obtain rfl : j = 0 := by omega
  rw [one_bt (by omega), one_bt h, e1]

theorem all_w2 {s : ByteArray} {n : Nat} (hn : n ≤ s.size) : ∀ d k, k + d = n → allF (w2 s n) false (w2 s k).size = s.extract k n
  | 0, k, h => by
    obtain rfl : k = n := by omega
    rw [allF_end (Nat.le_refl _), cut_none]
  | d + 1, k, h => by
    have ih := all_w2 hn d (k + 1) (by omega)
    obtain ⟨m1, m2⟩ := w2_more (s := s) (k + 1) d
    rw [show k + 1 + d = n by omega] at m1 m2
    rw [← cut_cut s (q := k + 1) (by omega) (by omega) hn, ← ih]
    have hw : w2 s (k + 1) = w2 s k ++ wr2 s k := rfl
    have hz : (w2 s (k + 1)).size = (w2 s k).size + (wr2 s k).size := by rw [hw, cat_size]
    rw [read_two (s := s) (t := w2 s n) (k := k) (p := (w2 s k).size) (by omega) (by omega) (fun j hj => by rw [m2 _ (by omega), hw, bt_right]), hz]

/-- A text that is written as references comes back as one Text. -/
theorem w2_all {s : ByteArray} (h : 0 < s.size) : allT (w2 s s.size) = [txT s, eofT] := by
  have h1 := (w2_size (s := s) s.size (Nat.le_refl _)).1
  rw [plain_all (by omega) (w2_none _ (Nat.le_refl _))]
  have := all_w2 (s := s) (n := s.size) (Nat.le_refl _) s.size 0 (by omega)
  rw [show (w2 s 0).size = 0 from rfl, cut_whole] at this
  rw [this]
theorem w2_nil {s : ByteArray} (h : s.size = 0) : allT (w2 s s.size) = [eofT] := by
  rw [h]
  exact nil_all

end Go.Proofs.YtcfaejbbjmjgpaaGreatDoor
