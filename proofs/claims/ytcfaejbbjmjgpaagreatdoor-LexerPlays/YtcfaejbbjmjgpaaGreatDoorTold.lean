/-
  Marks by themselves: what is told goes on, is right, and does not hang on what stands behind its end. No program.
-/
import Derived.Test.YtcfaejbbjmjgpaaGreatDoorMarkA
import Derived.Test.YtcfaejbbjmjgpaaGreatDoorGroundE
import Derived.Test.YtcfaejbbjmjgpaaGreatDoorGroundH
namespace Go.Proofs.YtcfaejbbjmjgpaaGreatDoor
open Go.RowKit Utf
set_option linter.unusedVariables false

/-- What a part tells: a place in the text, no long name, a right token or none. -/
structure Fine (s : ByteArray) (R : Mt × Nat) : Prop where
  hi : R.2 ≤ s.size
  name : R.1.2.1.size ≤ s.size
  kind : R.1.1 = 0 ∨ ((R.1.1 = 1 ∨ R.1.1 = 4 ∨ R.1.1 = 5) ∧ right (R.1.1, R.1.2.1, [], false, R.1.2.2) = true)

theorem right_comment (y : ByteArray) : right (5, ⟨#[]⟩, [], false, y) = true := decide_eq_true rfl
theorem right_doctype (x : ByteArray) : right (1, lower x, [], false, ⟨#[]⟩) = true := by
  show (decide (lower (lower x) = lower x) && decide _) = true
  rw [decide_eq_true (lower_lower x)]
  exact decide_eq_true rfl
theorem right_text {y : ByteArray} (h : 0 < y.size) : right (4, ⟨#[]⟩, [], false, y) = true := by
  show (!(eqs y ⟨#[]⟩) && decide _) = true
  have h1 : eqs y ⟨#[]⟩ = false := by
    cases hx : eqs y ⟨#[]⟩ with
    | false => rfl
    | true =>
      rw [eqs_iff.1 hx] at h
      exact absurd h (by decide)
  rw [h1]
  exact decide_eq_true rfl

theorem cF_form (s : ByteArray) (f : Nat) : ∃ y n, cF s f = ((5, ⟨#[]⟩, y), n) := by
  unfold cF
  split
  · exact ⟨_, _, rfl⟩
  split
  · exact ⟨_, _, rfl⟩
  split
  · exact ⟨_, _, rfl⟩
  · exact ⟨_, _, rfl⟩
theorem cF_fine {s : ByteArray} {f : Nat} (hf : f ≤ s.size) : Fine s (cF s f) := by
  have h := (cF_le hf).2
  obtain ⟨y, n, e⟩ := cF_form s f
  rw [e] at h ⊢
  exact ⟨h, Nat.zero_le _, Or.inr ⟨Or.inr (Or.inr rfl), right_comment _⟩⟩
theorem dF_fine {s : ByteArray} {f : Nat} (hf : f ≤ s.size) : Fine s (dF s f) :=
  ⟨(dF_le hf).2, by show (lower _).size ≤ _; rw [lower_size]; exact cut_le _ _ _, Or.inr ⟨Or.inl rfl, right_doctype _⟩⟩
theorem oF_fine {s : ByteArray} {f : Nat} (hf : f ≤ s.size) : Fine s (oF s f) :=
  ⟨(oF_le hf).2, Nat.zero_le _, Or.inr ⟨Or.inr (Or.inr rfl), right_comment _⟩⟩
theorem kF_fine {s : ByteArray} {f : Nat} (hf : f ≤ s.size) : Fine s (kF s f) := by
  have h := (kF_le hf).2
  have h1 := (eP_is s [E3] hf).lo
  have h2 := (eP_is s [E3] hf).hi
  unfold kF at h ⊢
  by_cases h3 : eP s [E3] f = f
  · rw [if_pos h3] at h ⊢
    exact ⟨h, Nat.zero_le _, Or.inl rfl⟩
  · rw [if_neg h3] at h ⊢
    exact ⟨h, Nat.zero_le _, Or.inr ⟨Or.inr (Or.inl rfl), right_text (by rw [cut_end s _ _ h2]; omega)⟩⟩

/-- It begins as one of them. -/
structure Opm (t : ByteArray) : Prop where
  size : 2 ≤ t.size
  b0 : bt t 0 = 60
  mid : bt t 1 = 33 ∨ bt t 1 = 63 ∨ (bt t 1 = 47 ∧ 3 ≤ t.size ∧ bt t 2 = 32)

theorem Opm.cat {t : ByteArray} (h : Opm t) (m : ByteArray) : Opm (t ++ m) := by
  have h1 := h.size
  refine ⟨by rw [cat_size]; omega, by rw [bt_left t m (by omega)]; exact h.b0, ?_⟩
  rw [bt_left t m (by omega)]
  rcases h.mid with g | g | ⟨g1, g2, g3⟩
  · exact Or.inl g
  · exact Or.inr (Or.inl g)
  · exact Or.inr (Or.inr ⟨g1, by rw [cat_size]; omega, by rw [bt_left t m (by omega)]; exact g3⟩)
theorem Opm.beg {t : ByteArray} (h : Opm t) : begM t 0 = true := by
  have h1 := h.size
  refine decide_eq_true ⟨by omega, h.b0, ?_⟩
  rcases h.mid with g | g | ⟨g1, g2, g3⟩
  · exact Or.inl g
  · exact Or.inr (Or.inl g)
  · exact Or.inr (Or.inr ⟨g1, by omega, by rw [g3]; decide⟩)
theorem Opm.emp {t : ByteArray} (h : Opm t) : st t 0 EMP = false := by
  rcases h.mid with g | g | ⟨g1, g2, g3⟩
  · exact st_not 1 (by decide) (by rw [g]; decide)
  · exact st_not 1 (by decide) (by rw [g]; decide)
  · exact st_not 2 (by decide) (by rw [g3]; decide)

theorem Opm.rd {t : ByteArray} (h : Opm t) (b : Bool) : rdM t 0 b = if st t 0 COM then cF t 4 else if fo t 0 DOC then dF t 9 else if b && st t 0 CDA then kF t 9 else if bt t 1 = 63 then oF t 1 else oF t 2 := by
  unfold rdM
  rw [if_neg (by rw [h.emp]; simp)]

theorem Opm.fine {t : ByteArray} (h : Opm t) (b : Bool) : Fine t (rdM t 0 b) ∧ 2 ≤ (rdM t 0 b).2 := by
  have h1 := h.size
  unfold rdM
  rw [if_neg (by rw [h.emp]; simp)]
  cases hc : st t 0 COM with
  | true =>
    have g : 0 + 4 ≤ t.size := st_le hc
    rw [if_pos rfl]
    exact ⟨cF_fine g, by have := (cF_le g).1; omega⟩
  | false =>
    rw [if_neg (by simp)]
    cases hd : fo t 0 DOC with
    | true =>
      have g : 0 + 9 ≤ t.size := fo_le hd
      rw [if_pos rfl]
      exact ⟨dF_fine g, by have := (dF_le g).1; omega⟩
    | false =>
      rw [if_neg (by simp)]
      cases hk : (b && st t 0 CDA) with
      | true =>
        have g : 0 + 9 ≤ t.size := st_le (x := CDA) (by simp only [Bool.and_eq_true] at hk; exact hk.2)
        rw [if_pos rfl]
        exact ⟨kF_fine g, by have := (kF_le g).1; omega⟩
      | false =>
        rw [if_neg (by simp)]
        by_cases hq : bt t (0 + 1) = 63
        · rw [if_pos hq]
          have g : 0 + 1 ≤ t.size := by omega
          refine ⟨oF_fine g, ?_⟩
          have h2 := (eP_is t [GT] g).lo
          have h3 : ¬ eP t [GT] (0 + 1) = 0 + 1 := fun e => by
            have h4 := eP_at g (l := [GT]) (by omega)
            rw [e] at h4
            have h5 := pick_one t (0 + 1) GT (by decide)
            rw [decide_eq_true h4] at h5
            have h6 : bt t (0 + 1) = 62 := st_at h5.symm 0 (by decide)
            rw [hq] at h6
            exact absurd h6 (by decide)
          have h7 := (eN_le t [GT] g).1
          show 2 ≤ eN t [GT] (0 + 1)
          omega
        · rw [if_neg hq]
          have g : 0 + 2 ≤ t.size := by omega
          exact ⟨oF_fine g, by have := (oF_le g).1; omega⟩

theorem Agr.there {s t : ByteArray} {n : Nat} (h : Agr s t n) (x : ByteArray) {j : Nat} (hj : j + x.size ≤ n) : st t j x = st s j x := by
  have h1 := h.hs
  have h2 := h.ht
  rw [Bool.eq_iff_iff]
  constructor
  · intro g
    exact st_true (by omega) fun i hi => by rw [h.at' _ (by omega)]; exact st_at g i hi
  · intro g
    exact st_true (by omega) fun i hi => by rw [← h.at' _ (by omega)]; exact st_at g i hi

/-- A text without the sign at n - 1 stands in both or in none. -/
theorem Agr.sign {s t : ByteArray} {n : Nat} (h : Agr s t n) (hn : 1 ≤ n) (hb : bt s (n - 1) = 62) (x : ByteArray) (hx : ∀ j, j < x.size → ¬ bt x j = 62) : st t 0 x = st s 0 x := by
  by_cases hz : x.size ≤ n
  · exact h.there x (by omega)
  · rw [st_not (n - 1) (by omega) (by rw [Nat.zero_add, ← h.at' _ (by omega), hb]; exact fun e => hx (n - 1) (by omega) e.symm), st_not (n - 1) (by omega) (by rw [Nat.zero_add, hb]; exact fun e => hx (n - 1) (by omega) e.symm)]
theorem Agr.fold {s t : ByteArray} {n : Nat} (h : Agr s t n) (hn : 1 ≤ n) (hb : bt s (n - 1) = 62) (x : ByteArray) (hx : ∀ j, j < x.size → ¬ low (bt x j) = 62) : fo t 0 x = fo s 0 x := by
  have h1 := h.hs
  have h2 := h.ht
  have hl : low 62 = 62 := by decide
  by_cases hz : x.size ≤ n
  · rw [Bool.eq_iff_iff]
    constructor
    · intro g
      exact fo_true (by omega) fun i hi => by rw [h.at' _ (by omega)]; exact (of_decide_eq_true g).2 i hi
    · intro g
      exact fo_true (by omega) fun i hi => by rw [← h.at' _ (by omega)]; exact (of_decide_eq_true g).2 i hi
  · rw [fo_not (n - 1) (by omega) (by rw [Nat.zero_add, ← h.at' _ (by omega), hb, hl]; exact fun e => hx (n - 1) (by omega) e.symm), fo_not (n - 1) (by omega) (by rw [Nat.zero_add, hb, hl]; exact fun e => hx (n - 1) (by omega) e.symm)]

theorem pick_yes {s : ByteArray} {i : Nat} {x : ByteArray} (hx : 0 < x.size) (h : pick s i [x] ≠ 0) : st s i x = true ∧ pick s i [x] = x.size := by
  have h1 := pick_one s i x hx
  rw [decide_eq_true h] at h1
  exact ⟨h1.symm, by rw [pick, ← h1]; rfl⟩

/-- One sign: where it ends is the same. -/
theorem Agr.one {s t : ByteArray} {n p : Nat} (h : Agr s t n) (x : ByteArray) (hx : 0 < x.size) (hp : p ≤ s.size) (hn : eN s [x] p = n) (hlt : n < s.size) : eP t [x] p = eP s [x] p ∧ eN t [x] p = n ∧ eP s [x] p < n := by
  have h1 := eP_is s [x] hp
  have h2 := eN_le s [x] hp
  have h3 := pick_yes hx (eP_at hp (by omega))
  have h4 : eP s [x] p + x.size = n := by rw [← hn]; unfold eN; rw [h3.2]
  generalize eP s [x] p = r at h1 h2 h3 h4 ⊢
  have hst : st t r x = true := by rw [h.there x (by omega)]; exact h3.1
  have hpk : pick t r [x] = x.size := by rw [pick, if_pos hst]
  have ht := h.ht
  have he : eP t [x] p = r := fs_eq ⟨h1.lo, by omega, fun j a b => by
    have := h1.no j a b
    rw [pick_one s j x hx] at this
    show decide (pick t j [x] ≠ 0) = false
    rw [pick_one t j x hx, h.there x (by omega)]
    exact this, fun _ => decide_eq_true (by rw [hpk]; omega)⟩
  exact ⟨he, by unfold eN; rw [he, hpk]; exact h4, by omega⟩

theorem pick_es {s : ByteArray} {i : Nat} : pick s i ES = if st s i E1 then 3 else if st s i E2 then 4 else 0 := rfl

/-- A comment's end is the same. -/
theorem Agr.two {s t : ByteArray} {n p : Nat} (h : Agr s t n) (hp : p ≤ s.size) (hn : eN s ES p = n) (hlt : n < s.size) : eP t ES p = eP s ES p ∧ eN t ES p = n ∧ eP s ES p + 3 ≤ n := by
  have h1 := eP_is s ES hp
  have h2 := eN_le s ES hp
  have h3 := eP_at hp (s := s) (l := ES) (by omega)
  have h4 : eP s ES p + pick s (eP s ES p) ES = n := hn
  generalize eP s ES p = r at h1 h2 h3 h4 ⊢
  have z1 : E1.size = 3 := rfl
  have z2 : E2.size = 4 := rfl
  have h5 : 3 ≤ pick s r ES := by
    rw [pick_es] at h3 ⊢
    split at h3
    · rw [if_pos (by assumption)]; omega
    split at h3
    · rw [if_neg (by assumption), if_pos (by assumption)]; omega
    · exact absurd rfl h3
  have h6 : r + 3 ≤ n := by omega
  have hpk : pick t r ES = pick s r ES := by
    rw [pick_es] at h4 ⊢
    rw [pick_es]
    have e1 : st t r E1 = st s r E1 := h.there E1 (by omega)
    rw [e1]
    cases g1 : st s r E1 with
    | true => rfl
    | false =>
      rw [g1] at h4
      simp only [Bool.false_eq_true, if_false] at h4 ⊢
      cases g2 : st s r E2 with
      | true =>
        rw [g2, if_pos rfl] at h4
        rw [h.there E2 (by omega), g2]
      | false =>
        rw [pick_es, g1, g2] at h3
        exact absurd rfl h3
  have ht := h.ht
  have he : eP t ES p = r := fs_eq ⟨h1.lo, by omega, fun j a b => by
    have := h1.no j a b
    have e1 : st t j E1 = st s j E1 := h.there E1 (by omega)
    have e2 : st t j E2 = st s j E2 := h.there E2 (by omega)
    show decide (pick t j ES ≠ 0) = false
    rw [pick_es, e1, e2, ← pick_es]
    exact this, fun _ => decide_eq_true (by rw [hpk]; exact h3)⟩
  exact ⟨he, by unfold eN; rw [he, hpk]; exact h4, by omega⟩

theorem cF_else {s : ByteArray} {f : Nat} (g1 : st s f GT = false) (g2 : st s f DGT = false) (g3 : ¬ eP s ES f = s.size) : cF s f = ((5, ⟨#[]⟩, s.extract f (eP s ES f)), eN s ES f) := by
  unfold cF
  rw [if_neg (by rw [g1]; simp), if_neg (by rw [g2]; simp), if_neg g3]

theorem cF_agr {s t : ByteArray} {n f : Nat} (h : Agr s t n) (hf : f ≤ s.size) (hn : (cF s f).2 = n) (hlt : n < s.size) : cF t f = cF s f := by
  have z1 : GT.size = 1 := rfl
  have z2 : DGT.size = 2 := rfl
  unfold cF at hn
  cases g1 : st s f GT with
  | true =>
    rw [if_pos g1] at hn
    have hn : f + 1 = n := hn
    unfold cF
    rw [h.there GT (by omega), if_pos g1, if_pos g1]
  | false =>
    rw [if_neg (by rw [g1]; simp)] at hn
    cases g2 : st s f DGT with
    | true =>
      rw [if_pos g2] at hn
      have hn : f + 2 = n := hn
      unfold cF
      rw [h.there GT (by omega), h.there DGT (by omega), if_pos g2, if_pos g2, g1]
    | false =>
      rw [if_neg (by rw [g2]; simp)] at hn
      by_cases g3 : eP s ES f = s.size
      · rw [if_pos g3] at hn
        have hn : s.size = n := hn
        omega
      · rw [if_neg g3] at hn
        obtain ⟨e1, e2, e3⟩ := h.two hf hn hlt
        have hlo := (eP_is s ES hf).lo
        have ht := h.ht
        have hn : eN s ES f = n := hn
        rw [cF_else g1 g2 g3, cF_else (by rw [h.there GT (by omega)]; exact g1) (by rw [h.there DGT (by omega)]; exact g2) (by omega), e1, e2, hn, h.cut (by omega)]

theorem oF_agr {s t : ByteArray} {n f : Nat} (h : Agr s t n) (hf : f ≤ s.size) (hn : (oF s f).2 = n) (hlt : n < s.size) : oF t f = oF s f := by
  have hn : eN s [GT] f = n := hn
  obtain ⟨e1, e2, e3⟩ := h.one GT (by decide) hf hn hlt
  unfold oF
  rw [e1, e2, hn, h.cut (by omega)]

theorem kF_agr {s t : ByteArray} {n f : Nat} (h : Agr s t n) (hf : f ≤ s.size) (hn : (kF s f).2 = n) (hlt : n < s.size) : kF t f = kF s f := by
  have hn : eN s [E3] f = n := by
    unfold kF at hn
    split at hn <;> exact hn
  obtain ⟨e1, e2, e3⟩ := h.one E3 (by decide) hf hn hlt
  unfold kF
  rw [e1, e2, hn, h.cut (by omega)]

theorem dF_agr {s t : ByteArray} {n f : Nat} (h : Agr s t n) (hf : f ≤ s.size) (hn : (dF s f).2 = n) (hlt : n < s.size) : dF t f = dF s f := by
  have h1 := skip_is s hf
  have h2 := until_is s DT h1.hi
  have hn : eN s [GT] (untilF s DT (skipF s f)) = n := hn
  obtain ⟨e1, e2, e3⟩ := h.one GT (by decide) h2.hi hn hlt
  have h3 := (eP_is s [GT] h2.hi).lo
  have a1 := h1.lo
  have a2 := h2.lo
  have q1 := h.skip hf rfl (by omega)
  have q2 := h.until DT h1.hi rfl (by omega)
  unfold dF
  rw [q1, q2, e2, hn, h.cut (by omega)]

theorem com_no : ∀ j, j < COM.size → ¬ bt COM j = 62 := by
  intro j hj
  have : j < 4 := hj
  rcases (show j = 0 ∨ j = 1 ∨ j = 2 ∨ j = 3 by omega) with rfl | rfl | rfl | rfl <;> decide
theorem cda_no : ∀ j, j < CDA.size → ¬ bt CDA j = 62 := by
  intro j hj
  have : j < 9 := hj
  rcases (show j = 0 ∨ j = 1 ∨ j = 2 ∨ j = 3 ∨ j = 4 ∨ j = 5 ∨ j = 6 ∨ j = 7 ∨ j = 8 by omega) with rfl | rfl | rfl | rfl | rfl | rfl | rfl | rfl | rfl <;> decide
theorem doc_no : ∀ j, j < DOC.size → ¬ low (bt DOC j) = 62 := by
  intro j hj
  have : j < 9 := hj
  rcases (show j = 0 ∨ j = 1 ∨ j = 2 ∨ j = 3 ∨ j = 4 ∨ j = 5 ∨ j = 6 ∨ j = 7 ∨ j = 8 by omega) with rfl | rfl | rfl | rfl | rfl | rfl | rfl | rfl | rfl <;> decide

theorem Opm.agr {s t : ByteArray} {n : Nat} (h : Opm s) (a : Agr s t n) (hn : 1 ≤ n) (hb : bt s (n - 1) = 62) : Opm t ∧ 2 ≤ n := by
  have h1 := a.hs
  have h2 := a.ht
  have g0 : ¬ n = 1 := fun e => by
    rw [e, show 1 - 1 = 0 from rfl, h.b0] at hb
    exact absurd hb (by decide)
  have g1 : ¬ n = 2 := fun e => by
    rw [e, show 2 - 1 = 1 from rfl] at hb
    rcases h.mid with g | g | g
    · rw [g] at hb; exact absurd hb (by decide)
    · rw [g] at hb; exact absurd hb (by decide)
    · rw [g.1] at hb; exact absurd hb (by decide)
  refine ⟨⟨by omega, by rw [← a.at' 0 (by omega)]; exact h.b0, ?_⟩, by omega⟩
  rw [← a.at' 1 (by omega), ← a.at' 2 (by omega)]
  rcases h.mid with g | g | g
  · exact Or.inl g
  · exact Or.inr (Or.inl g)
  · exact Or.inr (Or.inr ⟨g.1, by omega, g.2.2⟩)

theorem Opm.rd_agr {s t : ByteArray} {n : Nat} (h : Opm s) (b : Bool) (a : Agr s t n) (hr : (rdM s 0 b).2 = n) (hlt : n < s.size) (hb : bt s (n - 1) = 62) : Opm t ∧ rdM t 0 b = rdM s 0 b := by
  have hn : 2 ≤ n := by rw [← hr]; exact (h.fine b).2
  obtain ⟨ht, _⟩ := h.agr a (by omega) hb
  refine ⟨ht, ?_⟩
  have h1 := h.size
  have k1 := a.sign (by omega) hb COM com_no
  have k2 := a.fold (by omega) hb DOC doc_no
  have k3 := a.sign (by omega) hb CDA cda_no
  have k4 := a.at' 1 (by omega)
  rw [h.rd] at hr
  rw [ht.rd, h.rd, k1, k2, k3, ← k4]
  cases hc : st s 0 COM with
  | true =>
    rw [if_pos hc] at hr
    simp only [↓reduceIte]
    exact cF_agr a (st_le (x := COM) hc) hr hlt
  | false =>
    rw [if_neg (by rw [hc]; simp)] at hr
    simp only [Bool.false_eq_true, if_false]
    cases hd : fo s 0 DOC with
    | true =>
      rw [if_pos hd] at hr
      simp only [↓reduceIte]
      exact dF_agr a (fo_le (x := DOC) hd) hr hlt
    | false =>
      rw [if_neg (by rw [hd]; simp)] at hr
      simp only [Bool.false_eq_true, if_false]
      cases hk : (b && st s 0 CDA) with
      | true =>
        rw [if_pos hk] at hr
        simp only [↓reduceIte]
        exact kF_agr a (st_le (x := CDA) (by simp only [Bool.and_eq_true] at hk; exact hk.2)) hr hlt
      | false =>
        rw [if_neg (by rw [hk]; simp)] at hr
        simp only [Bool.false_eq_true, if_false]
        by_cases hq : bt s 1 = 63
        · rw [if_pos hq] at hr ⊢
          rw [if_pos hq]
          exact oF_agr a (by omega) hr hlt
        · rw [if_neg hq] at hr ⊢
          rw [if_neg hq]
          exact oF_agr a (by omega) hr hlt

/-- What is told of such a text. -/
theorem Opm.facts {s : ByteArray} (h : Opm s) (b : Bool) : ∃ (T : Mt) (n : Nat), mkF s 0 b = (T, (n : Int), true) ∧ 2 ≤ n ∧ n ≤ s.size ∧ T.2.1.size ≤ s.size ∧
    (T.1 = 0 ∨ ((T.1 = 1 ∨ T.1 = 4 ∨ T.1 = 5) ∧ right (T.1, T.2.1, [], false, T.2.2) = true)) ∧ (n < s.size → bt s (n - 1) = 62 → ∀ m, mkF (s.extract 0 n ++ m) 0 b = mkF s 0 b) := by
  obtain ⟨f1, f2⟩ := h.fine b
  refine ⟨(rdM s 0 b).1, (rdM s 0 b).2, mk_yes h.beg b, f2, f1.hi, f1.name, f1.kind, fun hlt hb m => ?_⟩
  obtain ⟨g1, g2⟩ := h.rd_agr b (agr_cut s m f1.hi) rfl hlt hb
  have e1 := mk_yes g1.beg b
  have e2 := mk_yes h.beg b
  rw [g2] at e1
  exact e1.trans e2.symm

end Go.Proofs.YtcfaejbbjmjgpaaGreatDoor
