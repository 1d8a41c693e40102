/-
  The lexer by itself: what begins at a place, what ends a text, what Next tells and All gathers. No program.
-/
import Derived.Test.YtcfaejbbjmjgpaaGreatDoorCutRef
import Derived.Test.YtcfaejbbjmjgpaaGreatDoorTold
import Derived.Test.YtcfaejbbjmjgpaaGreatDoorRaw
namespace Go.Proofs.YtcfaejbbjmjgpaaGreatDoor
open Go.RowKit Utf
set_option linter.unusedVariables false

/-- A tag or a mark begins at p. -/
def bgs (s : ByteArray) (p : Nat) : Bool := decide (¬ (begF s (p : Int)).1 = 0) || begM s p

theorem beg_lt {s : ByteArray} {p : Nat} (h : ¬ (begF s (p : Int)).1 = 0) : p < s.size ∧ bt s p = 60 := by
  unfold begF at h
  by_cases h1 : 0 ≤ (p : Int) ∧ (p : Int) < s.size ∧ bt s (p : Int).toNat = 60
  · exact ⟨by omega, by have := h1.2.2; rwa [Int.toNat_natCast] at this⟩
  · rw [if_neg h1] at h
    exact absurd rfl h
theorem bgs_lt {s : ByteArray} {p : Nat} (h : bgs s p = true) : p < s.size ∧ bt s p = 60 := by
  unfold bgs at h
  rw [Bool.or_eq_true] at h
  rcases h with h | h
  · exact beg_lt (of_decide_eq_true h)
  · have := begM_is h
    exact ⟨by omega, this.2.1⟩

theorem slash_is {s : ByteArray} {p : Nat} : st s p SL = true ↔ bt s p = 47 := by
  constructor
  · intro h
    exact st_at h 0 (by decide)
  · intro h
    refine st_true ?_ fun j hj => ?_
    · by_cases hp : p + 1 ≤ s.size
      · exact hp
      · rw [bt_out (by omega)] at h
        exact absurd h (by decide)
    · have hj1 : j < 1 := hj
      obtain rfl : j = 0 := by omega
      exact h

theorem begF_one {s : ByteArray} {p : Nat} (hp : p < s.size) (hb : bt s p = 60) : begF s (p : Int) = if bt s (p + 1) = 47 then (if isLet (bt s (p + 2)) = true then (3, p + 2) else (0, 0)) else if isLet (bt s (p + 1)) = true then (2, p + 1) else (0, 0) := by
  unfold begF
  rw [Int.toNat_natCast, if_pos ⟨by omega, by omega, hb⟩]
  by_cases h : bt s (p + 1) = 47
  · rw [if_pos h, if_pos (slash_is.2 h)]
  · rw [if_neg h, if_neg (fun g => h (slash_is.1 g))]

theorem beg_mark {s : ByteArray} {p : Nat} (h : ¬ (begF s (p : Int)).1 = 0) : begM s p = false := by
  obtain ⟨h1, h2⟩ := beg_lt h
  rw [begF_one h1 h2] at h
  cases hm : begM s p with
  | false => rfl
  | true =>
    exfalso
    obtain ⟨_, _, g⟩ := begM_is hm
    rcases g with g | g | ⟨g, _, g2⟩
    · rw [g, if_neg (by decide), if_neg (by decide)] at h
      exact h rfl
    · rw [g, if_neg (by decide), if_neg (by decide)] at h
      exact h rfl
    · rw [g, if_pos rfl, g2] at h
      exact h rfl

/-- Where a tag's name begins. -/
theorem beg_two {s : ByteArray} {p : Nat} (h : ¬ (begF s (p : Int)).1 = 0) : p + 1 ≤ (begF s (p : Int)).2 := by
  obtain ⟨h1, h2⟩ := beg_lt h
  rw [begF_one h1 h2] at h ⊢
  split at h
  · rename_i g
    rw [if_pos g]
    split at h
    · rename_i g
      rw [if_pos g]
      show p + 1 ≤ p + 2
      omega
    · exact absurd rfl h
  · rename_i g
    rw [if_neg g]
    split at h
    · rename_i g
      rw [if_pos g]
      exact Nat.le_refl _
    · exact absurd rfl h

/-- Three bytes tell it. -/
theorem beg3 {s : ByteArray} {p m : Nat} (hp : p < s.size) (hm : m = min (p + 3) s.size) : (begF (s.extract p m) (0 : Int)).1 = (begF s (p : Int)).1 ∧ begM (s.extract p m) 0 = begM s p := by
  have hz : (s.extract p m).size = m - p := by rw [ByteArray.size_extract]; omega
  have hb : ∀ j, j < 3 → bt (s.extract p m) j = bt s (p + j) := fun j hj => by
    by_cases g : p + j < m
    · exact bt_cut s p m j g (by omega)
    · rw [bt_out (by omega), bt_out (by omega)]
  have b0 := hb 0 (by omega)
  have b1 := hb 1 (by omega)
  have b2 := hb 2 (by omega)
  rw [Nat.add_zero] at b0
  by_cases h60 : bt s p = 60
  · constructor
    · have e1 := begF_one (s := s.extract p m) (p := 0) (by omega) (b0.trans h60)
      rw [show ((0 : Nat) : Int) = 0 from rfl, show 0 + 1 = 1 from rfl, show 0 + 2 = 2 from rfl, b1, b2] at e1
      rw [e1, begF_one hp h60]
      split
      · split <;> rfl
      · split <;> rfl
    · unfold begM
      rw [show 0 + 1 = 1 from rfl, show 0 + 2 = 2 from rfl, b0, b1, b2, hz, decide_eq_decide]
      constructor
      · rintro ⟨g1, g2, g3⟩
        exact ⟨by omega, g2, by
          rcases g3 with g | g | ⟨g, g4, g5⟩
          · exact Or.inl g
          · exact Or.inr (Or.inl g)
          · exact Or.inr (Or.inr ⟨g, by omega, g5⟩)⟩
      · rintro ⟨g1, g2, g3⟩
        exact ⟨by omega, g2, by
          rcases g3 with g | g | ⟨g, g4, g5⟩
          · exact Or.inl g
          · exact Or.inr (Or.inl g)
          · exact Or.inr (Or.inr ⟨g, by omega, g5⟩)⟩
  · constructor
    · have e1 : (begF s (p : Int)).1 = 0 := by
        by_cases g : (begF s (p : Int)).1 = 0
        · exact g
        · exact absurd (beg_lt g).2 h60
      have e2 : (begF (s.extract p m) (0 : Int)).1 = 0 := by
        by_cases g : (begF (s.extract p m) ((0 : Nat) : Int)).1 = 0
        · exact g
        · exact absurd (b0.symm.trans (beg_lt g).2) h60
      rw [e1, e2]
    · have e1 : begM s p = false := by
        cases g : begM s p with
        | false => rfl
        | true => exact absurd (begM_is g).2.1 h60
      have e2 : begM (s.extract p m) 0 = false := by
        cases g : begM (s.extract p m) 0 with
        | false => rfl
        | true => exact absurd (b0.symm.trans (begM_is g).2.1) h60
      rw [e1, e2]

/-- What is told of a tag that begins there. -/
theorem tag_facts {s : ByteArray} {p : Nat} (h : ¬ (begF s (p : Int)).1 = 0) : tagF s (p : Int) = (zt, (s.size : Int), false) ∨
    (∃ e : Nat, (tagF s (p : Int)).2 = ((e : Int), true) ∧ p + 2 ≤ e ∧ e ≤ s.size ∧ right (tagF s (p : Int)).1 = true ∧ ((tagF s (p : Int)).1.1 = 2 ∨ (tagF s (p : Int)).1.1 = 3) ∧ tagName (tagF s (p : Int)).1.2.1 = true ∧ (tagF s (p : Int)).1.2.1.size ≤ s.size ∧ (s.size ≤ 20000 → fits (tagF s (p : Int)).1.2.2.1)) := by
  have hb := beg_two h
  have ht : tagF s (p : Int) = wholeF s (begF s (p : Int)).1 (begF s (p : Int)).2 := tag_some rfl h
  rcases beg_is s (p : Int) with ⟨g, _⟩ | ⟨hk, l1, hl, _⟩
  · exact absurd g h
  generalize (begF s (p : Int)).1 = k at ht hk h
  generalize (begF s (p : Int)).2 = f at ht hb l1 hl
  rw [ht]
  rcases whole_told (k := k) l1 hl with g | ⟨e, g1, g2, g3, _⟩
  · exact Or.inl g
  · have hr := whole_right hk l1 hl (by rw [g1])
    obtain ⟨n1, n2, n3⟩ := name_right l1 hl
    have hrest : ((wholeF s k f).1.1 = 2 ∨ (wholeF s k f).1.1 = 3) ∧ tagName (wholeF s k f).1.2.1 = true ∧ (wholeF s k f).1.2.1.size ≤ s.size ∧ (s.size ≤ 20000 → fits (wholeF s k f).1.2.2.1) := by
      have hz : (lower (s.extract f (nameF s f))).size ≤ s.size := by rw [lower_size]; exact cut_le _ _ _
      unfold wholeF at g1 ⊢
      split at g1
      · simp at g1
      · rename_i c
        rw [if_neg c]
        rcases hk with rfl | rfl
        · rw [if_pos rfl]
          exact ⟨Or.inl rfl, n3, hz, fun hs => fits_uniq (in_fits hs _)⟩
        · rw [if_neg (by decide)]
          exact ⟨Or.inr rfl, n3, hz, fun _ a ha => by simp at ha⟩
    exact Or.inr ⟨e, g1, by omega, g3, hr, hrest.1, hrest.2.1, hrest.2.2.1, hrest.2.2.2⟩

/-- What is told of a mark that begins there. -/
theorem mark_facts {s : ByteArray} {p : Nat} (h : begM s p = true) (b : Bool) : Fine s (rdM s p b) ∧ p + 2 ≤ (rdM s p b).2 := by
  obtain ⟨h1, h60, hmid⟩ := begM_is h
  unfold rdM
  cases he : st s p EMP with
  | true =>
    have g : p + 3 ≤ s.size := st_le he
    rw [if_pos rfl]
    exact ⟨⟨g, Nat.zero_le _, Or.inl rfl⟩, by show p + 2 ≤ p + 3; omega⟩
  | false =>
    rw [if_neg (by simp)]
    cases hc : st s p COM with
    | true =>
      have g : p + 4 ≤ s.size := st_le hc
      rw [if_pos rfl]
      exact ⟨cF_fine g, by have := (cF_le g).1; omega⟩
    | false =>
      rw [if_neg (by simp)]
      cases hd : fo s p DOC with
      | true =>
        have g : p + 9 ≤ s.size := fo_le hd
        rw [if_pos rfl]
        exact ⟨dF_fine g, by have := (dF_le g).1; omega⟩
      | false =>
        rw [if_neg (by simp)]
        cases hk : (b && st s p CDA) with
        | true =>
          have g : p + 9 ≤ s.size := st_le (x := CDA) (by simp only [Bool.and_eq_true] at hk; exact hk.2)
          rw [if_pos rfl]
          exact ⟨kF_fine g, by have := (kF_le g).1; omega⟩
        | false =>
          rw [if_neg (by simp)]
          by_cases hq : bt s (p + 1) = 63
          · rw [if_pos hq]
            have g : p + 1 ≤ s.size := by omega
            refine ⟨oF_fine g, ?_⟩
            have h2 := (eP_is s [GT] g).lo
            have h3 : ¬ eP s [GT] (p + 1) = p + 1 := fun e => by
              have h4 := eP_at g (l := [GT]) (by omega)
              rw [e] at h4
              have h5 := pick_one s (p + 1) GT (by decide)
              rw [decide_eq_true h4] at h5
              have h6 : bt s (p + 1) = 62 := st_at h5.symm 0 (by decide)
              rw [hq] at h6
              exact absurd h6 (by decide)
            have h7 := (eN_le s [GT] g).1
            show p + 2 ≤ eN s [GT] (p + 1)
            omega
          · rw [if_neg hq]
            have g : p + 2 ≤ s.size := by omega
            exact ⟨oF_fine g, by have := (oF_le g).1; omega⟩

def CLO : ByteArray := ⟨#[60, 47]⟩
/-- The end tag of that name begins at p. -/
def clo (s last : ByteArray) (p : Nat) : Bool := decide (0 < last.size) && (st s p CLO && (decide (nameF s (p + 2) < s.size) && (decide (nameF s (p + 2) = p + 2 + last.size) && fo s (p + 2) last)))

theorem clo_is {s last : ByteArray} {p : Nat} (h : clo s last p = true) : 0 < last.size ∧ st s p CLO = true ∧ nameF s (p + 2) < s.size ∧ nameF s (p + 2) = p + 2 + last.size ∧ fo s (p + 2) last = true := by
  unfold clo at h
  simp only [Bool.and_eq_true, decide_eq_true_eq] at h
  exact h

theorem clo_at {s : ByteArray} {p : Nat} (h : st s p CLO = true) : p + 2 ≤ s.size ∧ bt s p = 60 ∧ bt s (p + 1) = 47 := ⟨st_le h, st_at h 0 (by decide), st_at h 1 (by decide)⟩

theorem clo_lt {s last : ByteArray} {p : Nat} (h : clo s last p = true) : p < s.size ∧ bt s p = 60 := by
  obtain ⟨_, h1, _⟩ := clo_is h
  obtain ⟨g1, g2, _⟩ := clo_at h1
  exact ⟨by omega, g2⟩

/-- A name that may be there; none is empty. -/
def nmOk (last : ByteArray) : Prop := last.size = 0 ∨ tagName last = true

theorem tagName_is {x : ByteArray} (h : tagName x = true) : isLet (bt x 0) = true ∧ (∀ j, j < x.size → okB (bt x j) = true) ∧ 0 < x.size := by
  unfold tagName at h
  simp only [Bool.and_eq_true] at h
  refine ⟨h.1.1, (all_ok x).1 h.1.2, ?_⟩
  exact let_lt h.1.1

theorem okB_en (x : Int) : okB x = !enN x := by
  unfold okB enN
  cases isSp x <;> cases (x == 47) <;> cases (x == 62) <;> rfl

theorem low_60 {x : Int} : low x = 60 ↔ x = 60 := by
  unfold low
  split <;> omega
theorem low_47 {x : Int} : low x = 47 ↔ x = 47 := by
  unfold low
  split <;> omega

theorem fo_clo (s last : ByteArray) (p : Nat) : fo s p (CLO ++ last) = (st s p CLO && fo s (p + 2) last) := by
  have hz : (CLO ++ last).size = 2 + last.size := cat_size _ _
  have z2 : CLO.size = 2 := rfl
  have c0 : bt (CLO ++ last) 0 = 60 := (bt_left CLO last (by omega)).trans (by decide)
  have c1 : bt (CLO ++ last) 1 = 47 := (bt_left CLO last (by omega)).trans (by decide)
  have cj : ∀ j, bt (CLO ++ last) (2 + j) = bt last j := fun j => bt_right CLO last j
  rw [Bool.eq_iff_iff, Bool.and_eq_true]
  constructor
  · intro h
    obtain ⟨h1, h2⟩ := of_decide_eq_true h
    have d0 := h2 0 (by omega)
    have d1 := h2 1 (by omega)
    rw [c0, show low 60 = 60 by decide, Nat.add_zero] at d0
    rw [c1, show low 47 = 47 by decide] at d1
    refine ⟨st_true (by omega) fun j hj => ?_, fo_true (by omega) fun j hj => ?_⟩
    · rcases (show j = 0 ∨ j = 1 by omega) with rfl | rfl
      · exact (low_60.1 d0).trans (by decide)
      · exact (low_47.1 d1).trans (by decide)
    · have := h2 (2 + j) (by omega)
      rw [cj, ← Nat.add_assoc] at this
      exact this
  · rintro ⟨h1, h2⟩
    obtain ⟨a1, a2, a3⟩ := clo_at h1
    obtain ⟨b1, b2⟩ := of_decide_eq_true h2
    refine fo_true (by omega) fun j hj => ?_
    by_cases j0 : j = 0
    · rw [j0, Nat.add_zero, a2, c0]
    by_cases j1 : j = 1
    · rw [j1, a3, c1]
    have := b2 (j - 2) (by omega)
    rw [← cj, show 2 + (j - 2) = j by omega, show p + 2 + (j - 2) = p + j by omega] at this
    exact this

/-- So the document says it. -/
theorem clo_ref {s last : ByteArray} {p : Nat} (h : tagName last = true) : clo s last p = (fo s p (CLO ++ last) && (decide (p + 2 + last.size < s.size) && enN (bt s (p + 2 + last.size)))) := by
  obtain ⟨_, hok, hz⟩ := tagName_is h
  unfold clo
  rw [decide_eq_true hz, Bool.true_and, fo_clo, Bool.and_assoc]
  cases h1 : st s p CLO with
  | false => rfl
  | true =>
    rw [Bool.true_and, Bool.true_and]
    obtain ⟨a1, _, _⟩ := clo_at h1
    cases h2 : fo s (p + 2) last with
    | false => simp
    | true =>
      rw [Bool.true_and, Bool.and_true]
      obtain ⟨b1, b2⟩ := of_decide_eq_true h2
      have hn := name_is s (p := p + 2) a1
      have hno : ∀ j, j < last.size → enN (bt s (p + 2 + j)) = false := fun j hj => by
        have e1 := okB_low (bt s (p + 2 + j))
        rw [b2 j hj, okB_low, hok j hj, okB_en] at e1
        cases hx : enN (bt s (p + 2 + j)) with
        | false => rfl
        | true => rw [hx] at e1; cases e1
      generalize nameF s (p + 2) = t at hn
      have l1 := hn.lo
      have l2 := hn.hi
      have hge : p + 2 + last.size ≤ t := by
        rcases Nat.lt_or_ge t (p + 2 + last.size) with g | g
        · exfalso
          have g1 := hn.at' (by omega)
          have g2 := hno (t - (p + 2)) (by omega)
          rw [show p + 2 + (t - (p + 2)) = t by omega] at g2
          rw [g2] at g1
          cases g1
        · exact g
      rw [Bool.eq_iff_iff]
      simp only [Bool.and_eq_true, decide_eq_true_eq]
      constructor
      · rintro ⟨g1, g2⟩
        have g3 := hn.at' g1
        rw [g2] at g1 g3
        exact ⟨g1, g3⟩
      · rintro ⟨g1, g2⟩
        have : t = p + 2 + last.size := by
          rcases Nat.lt_or_ge (p + 2 + last.size) t with g | g
          · have := hn.no _ (by omega) g
            rw [g2] at this
            cases this
          · omega
        exact ⟨by omega, this⟩

theorem clo_none {s last : ByteArray} {p : Nat} (h : last.size = 0) : clo s last p = false := by
  unfold clo
  rw [decide_eq_false (by omega)]
  rfl

/-- Where it closes, an end tag begins. -/
theorem clo_beg {s last : ByteArray} {p : Nat} (hn : nmOk last) (h : clo s last p = true) : begF s (p : Int) = (3, p + 2) := by
  obtain ⟨h0, h1, _, _, h4⟩ := clo_is h
  obtain ⟨a1, a2, a3⟩ := clo_at h1
  rcases hn with hn | hn
  · omega
  · obtain ⟨hl, _, _⟩ := tagName_is hn
    have := (of_decide_eq_true h4).2 0 h0
    rw [Nat.add_zero] at this
    have e1 : isLet (bt s (p + 2)) = true := by rw [← isLet_low, this, isLet_low]; exact hl
    rw [begF_one (by omega) a2, if_pos a3, if_pos e1]

/-- A text of that mode ends at i. -/
def enF (s : ByteArray) (md : Int) (last : ByteArray) (i : Nat) : Bool := if md = 1 then bgs s i else if md = 2 ∨ md = 3 then clo s last i else false
/-- Where the text from p on ends. -/
def tE (s : ByteArray) (md : Int) (last : ByteArray) (p : Nat) : Nat := fs (enF s md last) (p + 1) s.size
/-- What it stands for. -/
def tT (s : ByteArray) (md : Int) (p e : Nat) : ByteArray := if md = 1 ∨ md = 2 then allF (s.extract p e) false 0 else s.extract p e

theorem tE_is (s : ByteArray) (md : Int) (last : ByteArray) {p : Nat} (h : p < s.size) : Fs (enF s md last) (p + 1) s.size (tE s md last p) := fs_is _ h

theorem enF_sign {s : ByteArray} {md : Int} {last : ByteArray} {i : Nat} (h : enF s md last i = true) : bt s i = 60 := by
  unfold enF at h
  split at h
  · exact (bgs_lt h).2
  split at h
  · exact (clo_lt h).2
  · cases h

theorem tE_pc (s : ByteArray) (md : Int) (last : ByteArray) {p : Nat} (h : p < s.size) : Pc s p (tE s md last p) := by
  have h1 := tE_is s md last h
  have := h1.lo
  refine ⟨by omega, h1.hi, ?_⟩
  by_cases g : tE s md last p = s.size
  · exact Or.inl g
  · exact Or.inr (enF_sign (h1.at' (by have := h1.hi; omega)))

theorem tT_size {s : ByteArray} {md : Int} {p e : Nat} (h : p < e) (he : e ≤ s.size) : 0 < (tT s md p e).size := by
  have hz : (s.extract p e).size = e - p := by rw [ByteArray.size_extract]; omega
  unfold tT
  split
  · exact all_some (by omega) false
  · omega

def eofT : Tok := (6, ⟨#[]⟩, [], false, ⟨#[]⟩)
def txT (y : ByteArray) : Tok := (4, ⟨#[]⟩, [], false, y)
def mkT (m : Mt) : Tok := (m.1, m.2.1, [], false, m.2.2)

/-- The tag at p: it is told, or lost; where the lexer stands then, and the last name. -/
def tgF (s last : ByteArray) (p : Nat) : Tok × Nat × ByteArray :=
  if (tagF s (p : Int)).2.2 = true then ((tagF s (p : Int)).1, (tagF s (p : Int)).2.1.toNat, if (tagF s (p : Int)).1.1 = 2 then (tagF s (p : Int)).1.2.1 else last)
  else (eofT, s.size, last)

/-- In Data. -/
def datF (s : ByteArray) (fg : Bool) (last : ByteArray) : Nat → Nat → Tok × Nat × ByteArray
  | 0, p => (eofT, s.size, last)
  | n + 1, p =>
    if s.size ≤ p then (eofT, s.size, last)
    else if ¬ (begF s (p : Int)).1 = 0 then tgF s last p
    else if begM s p = true then (if (rdM s p fg).1.1 = 0 then datF s fg last n (rdM s p fg).2 else (mkT (rdM s p fg).1, (rdM s p fg).2, last))
    else (txT (tT s 1 p (tE s 1 last p)), tE s 1 last p, last)

/-- What Next tells; where the lexer stands then, its mode, the last name. -/
def nextF (s : ByteArray) (md : Int) (fg : Bool) (last : ByteArray) (p : Nat) : Tok × Nat × Int × ByteArray :=
  if s.size ≤ p then (eofT, p, md, last)
  else if md = 1 then ((datF s fg last (s.size + 1) p).1, (datF s fg last (s.size + 1) p).2.1, 1, (datF s fg last (s.size + 1) p).2.2)
  else if (md = 2 ∨ md = 3) ∧ clo s last p = true then ((tgF s last p).1, (tgF s last p).2.1, 1, (tgF s last p).2.2)
  else (txT (tT s md p (tE s md last p)), tE s md last p, md, last)

/-- What is so of it. -/
structure Told (s : ByteArray) (p : Nat) (T : Tok) (e : Nat) : Prop where
  hi : e ≤ s.size
  go : (T = eofT ∧ e = s.size) ∨ (¬ T.1 = 6 ∧ p < e ∧ right T = true)
  len : T.2.2.1.length ≤ s.size
  name : T.2.1.size ≤ s.size
  fit : s.size ≤ 20000 → fits T.2.2.1

theorem Told.eof {s : ByteArray} {p : Nat} : Told s p eofT s.size := ⟨Nat.le_refl _, Or.inl ⟨rfl, rfl⟩, Nat.zero_le _, Nat.zero_le _, fun _ a ha => by simp [eofT] at ha⟩
theorem Told.text {s : ByteArray} {p e : Nat} {y : ByteArray} (h : p < e) (he : e ≤ s.size) (hy : 0 < y.size) : Told s p (txT y) e :=
  ⟨he, Or.inr ⟨by show ¬ (4 : Int) = 6; decide, h, right_text hy⟩, Nat.zero_le _, Nat.zero_le _, fun _ a ha => by simp [txT] at ha⟩
theorem Told.back {s : ByteArray} {p q e : Nat} {T : Tok} (h : Told s q T e) (hq : p ≤ q) : Told s p T e :=
  ⟨h.hi, by rcases h.go with g | ⟨g1, g2, g3⟩; exact Or.inl g; exact Or.inr ⟨g1, by omega, g3⟩, h.len, h.name, h.fit⟩

theorem tgF_told {s last : ByteArray} {p : Nat} (h : ¬ (begF s (p : Int)).1 = 0) (hn : nmOk last) : Told s p (tgF s last p).1 (tgF s last p).2.1 ∧ nmOk (tgF s last p).2.2 := by
  unfold tgF
  rcases tag_facts h with g | ⟨e, g1, g2, g3, g4, g5, g6, g7, g8⟩
  · rw [g]
    exact ⟨Told.eof, hn⟩
  · have hl := tag_len s (p : Int)
    rw [if_pos (by rw [g1])]
    rw [g1]
    refine ⟨⟨g3, Or.inr ⟨by rcases g5 with g | g <;> rw [g] <;> decide, ?_, g4⟩, hl, g7, g8⟩, ?_⟩
    · show p < (e : Int).toNat
      omega
    · show nmOk (if _ then _ else _)
      split
      · exact Or.inr g6
      · exact hn

theorem datF_told {s last : ByteArray} {fg : Bool} (hn : nmOk last) : ∀ n p, Told s p (datF s fg last n p).1 (datF s fg last n p).2.1 ∧ nmOk (datF s fg last n p).2.2
  | 0, p => ⟨Told.eof, hn⟩
  | n + 1, p => by
    unfold datF
    by_cases h1 : s.size ≤ p
    · rw [if_pos h1]
      exact ⟨Told.eof, hn⟩
    rw [if_neg h1]
    by_cases h2 : ¬ (begF s (p : Int)).1 = 0
    · rw [if_pos h2]
      exact tgF_told h2 hn
    rw [if_neg h2]
    by_cases h3 : begM s p = true
    · rw [if_pos h3]
      obtain ⟨f, g⟩ := mark_facts h3 fg
      by_cases h4 : (rdM s p fg).1.1 = 0
      · rw [if_pos h4]
        obtain ⟨a, b⟩ := datF_told (fg := fg) hn n (rdM s p fg).2
        exact ⟨a.back (by omega), b⟩
      · rw [if_neg h4]
        rcases f.kind with k | ⟨k, k2⟩
        · exact absurd k h4
        · refine ⟨⟨f.hi, Or.inr ⟨?_, by show p < (rdM s p fg).2; omega, k2⟩, Nat.zero_le _, f.name, fun _ a ha => by simp [mkT] at ha⟩, hn⟩
          show ¬ (rdM s p fg).1.1 = 6
          rcases k with k | k | k <;> rw [k] <;> decide
    · rw [if_neg h3]
      have h5 := tE_is s 1 last (p := p) (by omega)
      have h6 := h5.lo
      have h7 : p < tE s 1 last p := h6
      exact ⟨Told.text h7 h5.hi (tT_size h7 h5.hi), hn⟩

abbrev mdOk (md : Int) : Prop := 1 ≤ md ∧ md ≤ 4
theorem one_ok : mdOk 1 := by decide

theorem next_told {s last : ByteArray} {md : Int} {fg : Bool} {p : Nat} (hp : p ≤ s.size) (hm : mdOk md) (hn : nmOk last) :
    Told s p (nextF s md fg last p).1 (nextF s md fg last p).2.1 ∧ mdOk (nextF s md fg last p).2.2.1 ∧ nmOk (nextF s md fg last p).2.2.2 := by
  unfold nextF
  by_cases h1 : s.size ≤ p
  · rw [if_pos h1]
    obtain rfl : p = s.size := by omega
    exact ⟨Told.eof, hm, hn⟩
  rw [if_neg h1]
  by_cases h2 : md = 1
  · rw [if_pos h2]
    obtain ⟨a, b⟩ := datF_told (s := s) (fg := fg) hn (s.size + 1) p
    exact ⟨a, one_ok, b⟩
  rw [if_neg h2]
  by_cases h3 : (md = 2 ∨ md = 3) ∧ clo s last p = true
  · rw [if_pos h3]
    have hb := clo_beg hn h3.2
    obtain ⟨a, b⟩ := tgF_told (s := s) (p := p) (last := last) (by rw [hb]; show ¬ (3 : Int) = 0; decide) hn
    exact ⟨a, one_ok, b⟩
  · rw [if_neg h3]
    have h5 := tE_is s md last (p := p) (by omega)
    have h6 := h5.lo
    have h7 : p < tE s md last p := h6
    exact ⟨Told.text h7 h5.hi (tT_size h7 h5.hi), hm, hn⟩

theorem raw_range (x : ByteArray) (b : Bool) : mdOk (raw x b) := by
  unfold raw
  split
  · decide
  split
  · decide
  split
  · split <;> decide
  split
  · decide
  · decide

/-- What All gathers. -/
def alT (s : ByteArray) : Nat → Nat → Int → ByteArray → List Tok
  | 0, _, _, _ => []
  | n + 1, p, md, last =>
    if (nextF s md false last p).1.1 = 6 then [(nextF s md false last p).1]
    else (nextF s md false last p).1 :: alT s n (nextF s md false last p).2.1 (if (nextF s md false last p).1.1 = 2 then raw (nextF s md false last p).1.2.1 false else (nextF s md false last p).2.2.1) (nextF s md false last p).2.2.2

def allT (s : ByteArray) : List Tok := alT s (s.size + 1) 0 1 ⟨#[]⟩

theorem alT_len (s : ByteArray) : ∀ n p md last, (alT s n p md last).length ≤ n
  | 0, _, _, _ => Nat.le_refl _
  | n + 1, p, md, last => by
    unfold alT
    split
    · simp
    · rw [List.length_cons]
      have := alT_len s n (nextF s md false last p).2.1 (if (nextF s md false last p).1.1 = 2 then raw (nextF s md false last p).1.2.1 false else (nextF s md false last p).2.2.1) (nextF s md false last p).2.2.2
      omega

theorem none_ok : nmOk ⟨#[]⟩ := Or.inl rfl

end Go.Proofs.YtcfaejbbjmjgpaaGreatDoor
