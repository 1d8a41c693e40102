/-
  Tags by themselves: a tag that is told ends behind its sign, is right, and does not hang on what stands behind it; one without the sign is lost, with it told. No program.
-/
import Derived.Test.YtgebdaanglmnnaaDoorKnows
namespace Go.Proofs.YtgebdaanglmnnaaDoor
open Go.RowKit Utf
set_option linter.unusedVariables false

/-- Where a value ends the tag. -/
theorem vF_two {s : ByteArray} {p : Nat} (h : (vF s p).2.2 = 2) : p < s.size ∨ s.size < p := by
  unfold vF at h
  split at h
  · cases h
  · omega

theorem vF_sign {s : ByteArray} {p : Nat} (hp : p ≤ s.size) (h : (vF s p).2.2 = 2) : p < s.size ∧ bt s p = 62 ∧ (vF s p).2.1 = p + 1 := by
  unfold vF at h ⊢
  by_cases h1 : p = s.size
  · rw [if_pos h1] at h; cases h
  rw [if_neg h1] at h ⊢
  by_cases h2 : bt s p = 62
  · rw [if_pos h2]
    exact ⟨by omega, h2, rfl⟩
  rw [if_neg h2] at h
  split at h
  · split at h <;> cases h
  split at h <;> cases h

theorem aF_sign {s : ByteArray} {p : Nat} (hp : p < s.size) (h : (aF s p).2.2 = 2) : bt s ((aF s p).2.1 - 1) = 62 := by
  unfold aF at h ⊢
  have hu := until_is s NE (p := p + 1) hp
  generalize untilF s NE (p + 1) = e at hu h ⊢
  by_cases h1 : e = s.size
  · rw [if_pos h1] at h; cases h
  rw [if_neg h1] at h ⊢
  have hk := skip_is s (p := e) hu.hi
  generalize skipF s e = k at hk h ⊢
  by_cases h2 : st s k EQ = false
  · rw [if_pos h2] at h; cases h
  rw [if_neg h2] at h ⊢
  have h3 : k < s.size := (eq_is.1 (by simpa using h2)).1
  have hj := skip_is s (p := k + 1) h3
  generalize skipF s (k + 1) = j at hj h ⊢
  by_cases h4 : (vF s j).2.2 = 0
  · rw [if_pos h4] at h; cases h
  · rw [if_neg h4] at h ⊢
    obtain ⟨g1, g2, g3⟩ := vF_sign hj.hi h
    show bt s ((vF s j).2.1 - 1) = 62
    rw [g3, Nat.add_sub_cancel]
    exact g2

/-- What is told ends behind its sign. -/
theorem rF_told (s : ByteArray) : ∀ (n p : Nat) (l : List Att), p ≤ s.size → ¬ (rF s n p l).2.2 = 0 → p < (rF s n p l).2.2 ∧ (rF s n p l).2.2 ≤ s.size ∧ bt s ((rF s n p l).2.2 - 1) = 62
  | 0, p, l, hp, h => absurd rfl h
  | n + 1, p, l, hp, h => by
    have hk := skip_is s hp
    unfold rF at h ⊢
    generalize skipF s p = q at hk h ⊢
    have l1 := hk.lo
    have l2 := hk.hi
    by_cases h1 : q = s.size
    · rw [if_pos h1] at h; exact absurd rfl h
    rw [if_neg h1] at h ⊢
    by_cases h2 : bt s q = 62
    · rw [if_pos h2]
      exact ⟨by show p < q + 1; omega, by show q + 1 ≤ _; omega, by show bt s (q + 1 - 1) = 62; rw [Nat.add_sub_cancel]; exact h2⟩
    rw [if_neg h2] at h ⊢
    by_cases h3 : st s q SG = true
    · rw [if_pos h3]
      obtain ⟨g1, g2, g3⟩ := sg_is.1 h3
      exact ⟨by show p < q + 2; omega, by show q + 2 ≤ _; omega, by show bt s (q + 2 - 1) = 62; rw [show q + 2 - 1 = q + 1 by omega]; exact g3⟩
    rw [if_neg h3] at h ⊢
    by_cases h4 : bt s q = 47
    · rw [if_pos h4] at h ⊢
      obtain ⟨g1, g2, g3⟩ := rF_told s n (q + 1) l (by omega) h
      exact ⟨by omega, g2, g3⟩
    rw [if_neg h4] at h ⊢
    obtain ⟨a1, a2, a3, a4⟩ := aF_goes (s := s) (p := q) (by omega)
    by_cases h5 : (aF s q).2.2 = 0
    · rw [if_pos h5] at h; exact absurd rfl h
    rw [if_neg h5] at h ⊢
    by_cases h6 : (aF s q).2.2 = 2
    · rw [if_pos h6]
      exact ⟨by show p < (aF s q).2.1; omega, a2, aF_sign (by omega) h6⟩
    rw [if_neg h6] at h ⊢
    obtain ⟨g1, g2, g3⟩ := rF_told s n (aF s q).2.1 _ a2 h
    exact ⟨by omega, g2, g3⟩

theorem in_told {s : ByteArray} {p : Nat} (hp : p ≤ s.size) (h : ¬ (inF s p []).2.2 = 0) : p < (inF s p []).2.2 ∧ (inF s p []).2.2 ≤ s.size ∧ bt s ((inF s p []).2.2 - 1) = 62 := rF_told s _ _ _ hp h

/-- Attributes have names. -/
theorem aF_named {s : ByteArray} {p : Nat} (hp : p < s.size) (h : ¬ (aF s p).2.2 = 0) : 0 < (aF s p).1.1.size := by
  unfold aF at h ⊢
  have hu := until_is s NE (p := p + 1) hp
  generalize untilF s NE (p + 1) = e at hu h ⊢
  have l1 := hu.lo
  have l2 := hu.hi
  have hz : 0 < (lower (s.extract p e)).size := by rw [lower_size, ByteArray.size_extract]; omega
  split at h
  · exact absurd rfl h
  next h1 =>
    rw [if_neg h1]
    split at h
    next h2 => rw [if_pos h2]; exact hz
    next h2 =>
      rw [if_neg h2]
      split at h
      · exact absurd rfl h
      next h3 => rw [if_neg h3]; exact hz

theorem rF_named (s : ByteArray) : ∀ (n p : Nat) (l : List Att), p ≤ s.size → (∀ a, a ∈ l → 0 < a.1.size) → ∀ a, a ∈ (rF s n p l).1 → 0 < a.1.size
  | 0, p, l, hp, hl => fun a ha => by simp [rF] at ha
  | n + 1, p, l, hp, hl => by
    have hk := skip_is s hp
    unfold rF
    generalize skipF s p = q at hk ⊢
    have l1 := hk.lo
    have l2 := hk.hi
    by_cases h1 : q = s.size
    · rw [if_pos h1]; exact fun a ha => by simp at ha
    rw [if_neg h1]
    split
    · exact hl
    split
    · exact hl
    split
    · exact rF_named s n (q + 1) l (by omega) hl
    obtain ⟨a1, a2, a3, a4⟩ := aF_goes (s := s) (p := q) (by omega)
    by_cases h5 : (aF s q).2.2 = 0
    · rw [if_pos h5]; exact fun a ha => by simp at ha
    rw [if_neg h5]
    have hl2 : ∀ a, a ∈ l ++ [(aF s q).1] → 0 < a.1.size := fun a ha => by
      rcases List.mem_append.1 ha with h | h
      · exact hl a h
      · simp only [List.mem_singleton] at h
        rw [h]
        exact aF_named (by omega) h5
    split
    · exact hl2
    · exact rF_named s n _ _ a2 hl2

theorem in_right {s : ByteArray} {p : Nat} (hp : p ≤ s.size) : areRight (uniq (inF s p []).1) = true := by
  have hn := rF_named s (s.size + 1 - p) p [] hp (fun a ha => by simp at ha)
  rw [show rF s (s.size + 1 - p) p [] = inF s p [] from rfl] at hn
  generalize (inF s p []).1 = l at hn
  unfold areRight
  rw [uniq_dist (dist_uniq l), hasN_uniq]
  have hg : hasN l ⟨#[]⟩ = false := by
    unfold hasN
    cases hx : getF l ⟨#[]⟩ with
    | none => rfl
    | some y =>
      have h1 := hn y (getF_mem hx)
      rw [getF_name hx] at h1
      exact absurd h1 (by decide)
  rw [hg]
  simp

theorem okB_low (x : Int) : okB (low x) = okB x := by
  unfold low
  split
  next h =>
    have e1 : okB (x + 32) = true := by unfold okB isSp; simp; omega
    have e2 : okB x = true := by unfold okB isSp; simp; omega
    rw [e1, e2]
  · rfl

theorem isLet_low (x : Int) : isLet (low x) = isLet x := by
  unfold low
  split
  next h =>
    have e1 : isLet (x + 32) = true := by unfold isLet; simp; omega
    have e2 : isLet x = true := by unfold isLet; simp; omega
    rw [e1, e2]
  · rfl

theorem okB_end {x : Int} (h : enN x = false) : okB x = true := by
  unfold enN at h
  unfold okB
  simp only [Bool.or_eq_false_iff] at h
  rw [h.1.1, h.1.2, h.2]
  rfl

theorem let_end {x : Int} (h : isLet x = true) : enN x = false := by
  cases hx : enN x with
  | false => rfl
  | true =>
    exfalso
    unfold enN isSp at hx
    unfold isLet at h
    simp at h hx
    omega

/-- A tag's name is a right one. -/
theorem name_right {s : ByteArray} {f : Nat} (hf : f < s.size) (hl : isLet (bt s f) = true) : f < nameF s f ∧ nameF s f ≤ s.size ∧ tagName (lower (s.extract f (nameF s f))) = true := by
  have h := name_is s (p := f) (Nat.le_of_lt hf)
  generalize nameF s f = t at h ⊢
  have l1 := h.lo
  have l2 := h.hi
  have hlt : f < t := by
    rcases Nat.lt_or_ge f t with g | g
    · exact g
    · obtain rfl : t = f := by omega
      have := h.at' hf
      rw [let_end hl] at this
      cases this
  refine ⟨hlt, l2, ?_⟩
  have hz : (s.extract f t).size = t - f := by rw [ByteArray.size_extract]; omega
  have hb : ∀ j, j < t - f → bt (lower (s.extract f t)) j = low (bt s (f + j)) := fun j hj => by rw [bt_low, bt_cut s f t j (by omega) l2]
  rw [tagName_low, lower_lower]
  · exact decide_eq_true rfl
  · rw [hb 0 (by omega), isLet_low]
    exact hl
  · intro j hj
    rw [lower_size, hz] at hj
    rw [hb j hj, okB_low]
    exact okB_end (h.no (f + j) (by omega) (by omega))

/-- A tag that is told is right. -/
theorem whole_right {s : ByteArray} {k : Int} {f : Nat} (hk : k = 2 ∨ k = 3) (hf : f < s.size) (hl : isLet (bt s f) = true) (h : (wholeF s k f).2.2 = true) : right (wholeF s k f).1 = true := by
  obtain ⟨g1, g2, g3⟩ := name_right hf hl
  have hr := in_right (s := s) g2
  unfold wholeF at h ⊢
  generalize nameF s f = t at h g1 g2 g3 hr ⊢
  by_cases h1 : (inF s t []).2.2 = 0
  · rw [if_pos h1] at h; cases h
  rw [if_neg h1]
  rcases hk with rfl | rfl
  · rw [if_pos rfl]
    unfold right
    rw [if_neg (by show ¬ (2 : Int) = 1; decide), if_pos rfl]
    show (tagName (lower (s.extract f t)) && areRight (uniq (inF s t []).1) && eqs ⟨#[]⟩ ⟨#[]⟩) = true
    rw [g3, hr, eqs_refl]
    rfl
  · rw [if_neg (by decide)]
    unfold right
    rw [if_neg (by show ¬ (3 : Int) = 1; decide), if_neg (by show ¬ (3 : Int) = 2; decide), if_pos rfl]
    show (tagName (lower (s.extract f t)) && decide _) = true
    rw [g3]
    simp

/-- Two texts that are the same up to n. -/
structure Agr (s t : ByteArray) (n : Nat) : Prop where
  hs : n ≤ s.size
  ht : n ≤ t.size
  at' : ∀ j, j < n → bt s j = bt t j

theorem fs_agr {f g : Nat → Bool} {p S T r n : Nat} (hp : p ≤ S) (h : fs f p S = r) (hr : r < n) (hS : n ≤ S) (hT : n ≤ T) (he : ∀ j, j < n → f j = g j) : fs g p T = r := by
  have h1 := fs_is f hp
  rw [h] at h1
  exact fs_eq ⟨h1.lo, by omega, fun j a b => by rw [← he j (by omega)]; exact h1.no j a b, fun _ => by rw [← he r hr]; exact h1.at' (by omega)⟩

theorem Agr.skip {s t : ByteArray} {n p q : Nat} (h : Agr s t n) (hp : p ≤ s.size) (hq : skipF s p = q) (hn : q < n) : skipF t p = q :=
  fs_agr hp hq hn h.hs h.ht (fun j hj => by rw [h.at' j hj])
theorem Agr.until {s t : ByteArray} {n p q : Nat} (h : Agr s t n) (set : ByteArray) (hp : p ≤ s.size) (hq : untilF s set p = q) (hn : q < n) : untilF t set p = q :=
  fs_agr hp hq hn h.hs h.ht (fun j hj => by rw [h.at' j hj])
theorem Agr.byB {s t : ByteArray} {n p q : Nat} (h : Agr s t n) (c : Int) (hp : p ≤ s.size) (hq : byF s c p = q) (hn : q < n) : byF t c p = q :=
  fs_agr hp hq hn h.hs h.ht (fun j hj => by rw [h.at' j hj])
theorem Agr.name {s t : ByteArray} {n p q : Nat} (h : Agr s t n) (hp : p ≤ s.size) (hq : nameF s p = q) (hn : q < n) : nameF t p = q :=
  fs_agr hp hq hn h.hs h.ht (fun j hj => by rw [h.at' j hj])
theorem Agr.cut {s t : ByteArray} {n p q : Nat} (h : Agr s t n) (hq : q ≤ n) : t.extract p q = s.extract p q := by
  have := h.hs
  have := h.ht
  refine bt_ext (by rw [ByteArray.size_extract, ByteArray.size_extract]; omega) fun j hj => ?_
  rw [ByteArray.size_extract] at hj
  rw [bt_cut t p q j (by omega) (by omega), bt_cut s p q j (by omega) (by omega)]
  exact (h.at' _ (by omega)).symm
theorem Agr.eq {s t : ByteArray} {n p : Nat} (h : Agr s t n) (hp : p < n) : st t p EQ = st s p EQ := by
  have := h.hs
  have := h.ht
  rw [Bool.eq_iff_iff, eq_is, eq_is, h.at' p hp]
  constructor <;> rintro ⟨_, h2⟩ <;> exact ⟨by omega, h2⟩
theorem Agr.sg {s t : ByteArray} {n p : Nat} (h : Agr s t n) (hp : p + 1 < n) : st t p SG = st s p SG := by
  have := h.hs
  have := h.ht
  rw [Bool.eq_iff_iff, sg_is, sg_is, h.at' p (by omega), h.at' (p + 1) hp]
  constructor <;> rintro ⟨_, h2⟩ <;> exact ⟨by omega, h2⟩

theorem vF_agr {s t : ByteArray} {n p : Nat} (h : Agr s t n) (hp : p < n) (h0 : ¬ (vF s p).2.2 = 0) (h1 : (vF s p).2.1 ≤ n) (h2 : (vF s p).2.2 = 1 → (vF s p).2.1 < n) : vF t p = vF s p := by
  have k1 := h.hs
  have k2 := h.ht
  have hb := h.at' p hp
  unfold vF at h0 h1 h2 ⊢
  rw [if_neg (by omega)] at h0 h1 h2
  rw [if_neg (by omega : ¬ p = t.size), if_neg (by omega : ¬ p = s.size), ← hb]
  by_cases h3 : bt s p = 62
  · rw [if_pos h3, if_pos h3]
  rw [if_neg h3] at h0 h1 h2
  rw [if_neg h3, if_neg h3]
  by_cases h4 : bt s p = 34 ∨ bt s p = 39
  · rw [if_pos h4] at h0 h1 h2
    rw [if_pos h4, if_pos h4]
    by_cases h5 : byF s (bt s p) (p + 1) = s.size
    · rw [if_pos h5] at h0; exact absurd rfl h0
    rw [if_neg h5] at h1
    obtain ⟨q, hq⟩ : ∃ q, byF s (bt s p) (p + 1) = q := ⟨_, rfl⟩
    have hq1 : q + 1 ≤ n := by rw [hq] at h1; exact h1
    rw [h.byB _ (by omega) hq (by omega), hq, if_neg (by omega), if_neg (by omega), h.cut (by omega)]
  · rw [if_neg h4] at h0 h1 h2
    rw [if_neg h4, if_neg h4]
    by_cases h5 : untilF s VE p = s.size
    · rw [if_pos h5] at h0; exact absurd rfl h0
    rw [if_neg h5] at h2
    obtain ⟨q, hq⟩ : ∃ q, untilF s VE p = q := ⟨_, rfl⟩
    have hq1 : q < n := by rw [hq] at h2; exact h2 rfl
    rw [h.until VE (by omega) hq hq1, hq, if_neg (by omega), if_neg (by omega), h.cut (by omega)]

theorem aF_agr {s t : ByteArray} {n p : Nat} (h : Agr s t n) (hp : p < n) (h0 : ¬ (aF s p).2.2 = 0) (h1 : (aF s p).2.1 ≤ n) (h2 : (aF s p).2.2 = 1 → (aF s p).2.1 < n) : aF t p = aF s p := by
  have k1 := h.hs
  have k2 := h.ht
  have hps : p < s.size := by omega
  unfold aF at h0 h1 h2 ⊢
  obtain ⟨e, he⟩ : ∃ e, untilF s NE (p + 1) = e := ⟨_, rfl⟩
  have hu := until_is s NE (p := p + 1) hps
  rw [he] at h0 h1 h2 hu
  rw [he]
  have u1 := hu.lo
  have u2 := hu.hi
  by_cases h3 : e = s.size
  · rw [if_pos h3] at h0; exact absurd rfl h0
  rw [if_neg h3] at h0 h1 h2
  rw [if_neg h3]
  obtain ⟨k, hk⟩ : ∃ k, skipF s e = k := ⟨_, rfl⟩
  have hkk := skip_is s (p := e) u2
  rw [hk] at h0 h1 h2 hkk
  rw [hk]
  have v1 := hkk.lo
  have v2 := hkk.hi
  by_cases h4 : st s k EQ = false
  · rw [if_pos h4] at h0 h1 h2
    rw [if_pos h4]
    have hkn : k < n := h2 rfl
    rw [h.until NE hps he (by omega), if_neg (by omega), h.skip u2 hk hkn, h.eq hkn, if_pos h4, h.cut (by omega)]
  rw [if_neg h4] at h0 h1 h2
  rw [if_neg h4]
  have h5 : k < s.size := (eq_is.1 (by simpa using h4)).1
  obtain ⟨j, hj⟩ : ∃ j, skipF s (k + 1) = j := ⟨_, rfl⟩
  have hjj := skip_is s (p := k + 1) h5
  rw [hj] at h0 h1 h2 hjj
  rw [hj]
  have w1 := hjj.lo
  have w2 := hjj.hi
  by_cases h6 : (vF s j).2.2 = 0
  · rw [if_pos h6] at h0; exact absurd rfl h0
  rw [if_neg h6] at h0 h1 h2
  rw [if_neg h6]
  simp only at h0 h1 h2
  obtain ⟨g1, g2, g3, g4⟩ := vF_goes (s := s) (p := j) w2
  have hjn : j < n := by
    rcases g3 with g | g | g
    · exact absurd g h6
    · have := h2 g
      omega
    · have := (vF_sign w2 g).2.2
      omega
  have hv := vF_agr h hjn h6 h1 h2
  have hkn : k < n := by omega
  rw [h.until NE hps he (by omega), if_neg (by omega), h.skip u2 hk hkn, h.eq hkn, if_neg h4, h.skip (by omega) hj hjn, hv, if_neg h6, h.cut (by omega)]

theorem rF_agr {s t : ByteArray} {n : Nat} (h : Agr s t n) : ∀ (m p : Nat) (l : List Att), p ≤ s.size → ¬ (rF s m p l).2.2 = 0 → (rF s m p l).2.2 ≤ n → rF t m p l = rF s m p l
  | 0, p, l, hp, h0, h1 => absurd rfl h0
  | m + 1, p, l, hp, h0, h1 => by
    have k1 := h.hs
    have k2 := h.ht
    have hk := skip_is s hp
    unfold rF at h0 h1 ⊢
    obtain ⟨q, hq⟩ : ∃ q, skipF s p = q := ⟨_, rfl⟩
    rw [hq] at h0 h1 hk
    rw [hq]
    have l1 := hk.lo
    have l2 := hk.hi
    by_cases c1 : q = s.size
    · rw [if_pos c1] at h0; exact absurd rfl h0
    rw [if_neg c1] at h0 h1
    rw [if_neg c1]
    by_cases c2 : bt s q = 62
    · rw [if_pos c2] at h1
      rw [if_pos c2]
      have hqn : q < n := h1
      rw [h.skip hp hq hqn, if_neg (by omega), ← h.at' q hqn, if_pos c2]
    rw [if_neg c2] at h0 h1
    rw [if_neg c2]
    by_cases c3 : st s q SG = true
    · rw [if_pos c3] at h1
      rw [if_pos c3]
      have hqn : q + 2 ≤ n := h1
      rw [h.skip hp hq (by omega), if_neg (by omega), ← h.at' q (by omega), if_neg c2, h.sg (by omega), if_pos c3]
    rw [if_neg c3] at h0 h1
    rw [if_neg c3]
    by_cases c4 : bt s q = 47
    · rw [if_pos c4] at h0 h1
      rw [if_pos c4]
      obtain ⟨g1, g2, g3⟩ := rF_told s m (q + 1) l (by omega) h0
      rw [h.skip hp hq (by omega), if_neg (by omega), ← h.at' q (by omega), if_neg c2, h.sg (by omega), if_neg c3, if_pos c4]
      exact rF_agr h m (q + 1) l (by omega) h0 h1
    rw [if_neg c4] at h0 h1
    rw [if_neg c4]
    have hlq : q < s.size := by omega
    obtain ⟨a1, a2, a3, a4⟩ := aF_goes hlq
    have hsg : ∀ (hqn : q < n), ¬ st t q SG = true := fun hqn e => c4 (by rw [h.at' q hqn]; exact (sg_is.1 e).2.1)
    by_cases c5 : (aF s q).2.2 = 0
    · rw [if_pos c5] at h0; exact absurd rfl h0
    rw [if_neg c5] at h0 h1
    rw [if_neg c5]
    by_cases c6 : (aF s q).2.2 = 2
    · rw [if_pos c6] at h1
      rw [if_pos c6]
      have hqn : (aF s q).2.1 ≤ n := h1
      rw [h.skip hp hq (by omega), if_neg (by omega), ← h.at' q (by omega), if_neg c2, if_neg (hsg (by omega)), if_neg c4, aF_agr h (by omega) c5 hqn (fun e => by rw [c6] at e; exact absurd e (by decide)), if_neg c5, if_pos c6]
    · rw [if_neg c6] at h0 h1
      rw [if_neg c6]
      obtain ⟨g1, g2, g3⟩ := rF_told s m (aF s q).2.1 _ a2 h0
      rw [h.skip hp hq (by omega), if_neg (by omega), ← h.at' q (by omega), if_neg c2, if_neg (hsg (by omega)), if_neg c4, aF_agr h (by omega) c5 (by omega) (fun _ => by omega), if_neg c5, if_neg c6]
      exact rF_agr h m _ _ a2 h0 h1

theorem in_agr {s t : ByteArray} {n p : Nat} (h : Agr s t n) (hp : p ≤ s.size) (hpt : p ≤ t.size) (h0 : ¬ (inF s p []).2.2 = 0) (h1 : (inF s p []).2.2 ≤ n) : inF t p [] = inF s p [] := by
  have e1 : inF s p [] = rF s (s.size + t.size + 1) p [] := rF_same s _ _ p [] hp (Nat.le_refl _) (by omega)
  have e2 : inF t p [] = rF t (s.size + t.size + 1) p [] := rF_same t _ _ p [] hpt (Nat.le_refl _) (by omega)
  rw [e1] at h0 h1
  rw [e1, e2]
  exact rF_agr h _ p [] hp h0 h1

/-- A tag that is told does not hang on what stands behind it. -/
theorem whole_agr {s t : ByteArray} {n f : Nat} {k : Int} (h : Agr s t n) (hf : f ≤ s.size) (h0 : (wholeF s k f).2.2 = true) (h1 : (wholeF s k f).2.1 ≤ n) : wholeF t k f = wholeF s k f := by
  have k1 := h.hs
  have k2 := h.ht
  have hn := name_is s hf
  unfold wholeF at h0 h1 ⊢
  obtain ⟨q, hq⟩ : ∃ q, nameF s f = q := ⟨_, rfl⟩
  rw [hq] at h0 h1 hn
  rw [hq]
  have l1 := hn.lo
  have l2 := hn.hi
  by_cases c1 : (inF s q []).2.2 = 0
  · rw [if_pos c1] at h0; cases h0
  rw [if_neg c1] at h0 h1
  rw [if_neg c1]
  have h2 : (inF s q []).2.2 ≤ n := by
    split at h1
    · have : (((inF s q []).2.2 : Nat) : Int) ≤ n := h1
      omega
    · have : (((inF s q []).2.2 : Nat) : Int) ≤ n := h1
      omega
  obtain ⟨g1, g2, g3⟩ := in_told l2 c1
  rw [h.name hf hq (by omega), in_agr h l2 (by omega) c1 h2, if_neg c1, h.cut (by omega)]

/-- What is told of a whole tag. -/
theorem whole_told {s : ByteArray} {k : Int} {f : Nat} (hf : f < s.size) (hl : isLet (bt s f) = true) : (wholeF s k f = (zt, (s.size : Int), false)) ∨ (∃ e : Nat, (wholeF s k f).2 = ((e : Int), true) ∧ f + 2 ≤ e ∧ e ≤ s.size ∧ bt s (e - 1) = 62) := by
  obtain ⟨g1, g2, g3⟩ := name_right hf hl
  unfold wholeF
  generalize nameF s f = q at g1 g2
  by_cases c1 : (inF s q []).2.2 = 0
  · rw [if_pos c1]; exact Or.inl rfl
  · rw [if_neg c1]
    obtain ⟨a1, a2, a3⟩ := in_told g2 c1
    refine Or.inr ⟨(inF s q []).2.2, ?_, by omega, a2, a3⟩
    split <;> rfl

end Go.Proofs.YtgebdaanglmnnaaDoor
