/-
  A tag without its end is lost; with one it is told. No program.
-/
import Derived.Test.YtgebdaanglmnnaaDoorOpens
namespace Go.Proofs.YtgebdaanglmnnaaDoor
open Go.RowKit Utf
set_option linter.unusedVariables false

/-- No end of a tag, and no quotes. -/
def Clean (x : ByteArray) : Prop := ∀ j, j < x.size → ¬ bt x j = 62 ∧ ¬ bt x j = 34 ∧ ¬ bt x j = 39

theorem Clean.one {x p : ByteArray} {k : Nat} (h : Clean x) (hk : k < p.size) (h1 : ¬ bt p k = 62) (h2 : ¬ bt p k = 34) (h3 : ¬ bt p k = 39) : Clean (x ++ p.extract k (k + 1)) := by
  intro j hj
  rw [cat_size, one_size hk] at hj
  rcases (show j < x.size ∨ j = x.size by omega) with g | g
  · rw [bt_left _ _ g]
    exact h j g
  · have e : bt (x ++ p.extract k (k + 1)) j = bt p k := by
      rw [g, show x.size = x.size + 0 by omega, bt_right, one_bt hk]
    rw [e]
    exact ⟨h1, h2, h3⟩

theorem clean_start : Clean ⟨#[60, 97]⟩ := by
  intro j hj
  have h : j < 2 := hj
  rcases (show j = 0 ∨ j = 1 by omega) with rfl | rfl <;> decide
theorem clean_end : Clean ⟨#[60, 47, 97]⟩ := by
  intro j hj
  have h : j < 3 := hj
  rcases (show j = 0 ∨ j = 1 ∨ j = 2 by omega) with rfl | rfl | rfl <;> decide

theorem lost_tag {x : ByteArray} {k : Int} {f : Nat} (h : Opn x k f) (hc : Clean x) (hs : x.size ≤ 380) : tagF x 0 = (zt, (x.size : Int), false) := by
  rcases h.facts hs with g | ⟨e, _, g2, g3, g4, _⟩
  · exact g
  · exact absurd g4 (hc (e - 1) (by omega)).1

/-- A text that ends with a blank and the end of a tag. -/
structure Tail (y : ByteArray) (m : Nat) : Prop where
  size : y.size = m + 2
  b0 : bt y m = 32
  b1 : bt y (m + 1) = 62
  no : ∀ j, j < m → ¬ bt y j = 62 ∧ ¬ bt y j = 34 ∧ ¬ bt y j = 39

theorem tail_of {x : ByteArray} (h : Clean x) : Tail (x ++ ⟨#[32, 62]⟩) x.size :=
  ⟨by rw [cat_size]; rfl, by rw [show x.size = x.size + 0 by omega, bt_right]; decide, by rw [bt_right]; decide, fun j hj => by rw [bt_left _ _ hj]; exact h j hj⟩

theorem ne_sp : inS NE 32 = true := by unfold inS; exact decide_eq_true ⟨4, by decide, by decide⟩
theorem ve_sp : inS VE 32 = true := by unfold inS; exact decide_eq_true ⟨4, by decide, by decide⟩

theorem Tail.skip {y : ByteArray} {m p : Nat} (h : Tail y m) (hp : p ≤ m + 1) : p ≤ skipF y p ∧ skipF y p ≤ m + 1 ∧ ¬ skipF y p = m := by
  have hz := h.size
  have hk := skip_is y (p := p) (by omega)
  generalize skipF y p = q at hk ⊢
  refine ⟨hk.lo, ?_, ?_⟩
  · rcases Nat.lt_or_ge (m + 1) q with g | g
    · have := hk.no (m + 1) hp g
      simp only [h.b1] at this
      exact absurd this (by decide)
    · exact g
  · rintro rfl
    have := hk.at' (by omega)
    simp only [h.b0] at this
    exact absurd this (by decide)

theorem Tail.until {y set : ByteArray} {m p : Nat} (h : Tail y m) (hs : inS set 32 = true) (hp : p ≤ m) : p ≤ untilF y set p ∧ untilF y set p ≤ m := by
  have hz := h.size
  have hk := until_is y set (p := p) (by omega)
  generalize untilF y set p = q at hk ⊢
  refine ⟨hk.lo, ?_⟩
  rcases Nat.lt_or_ge m q with g | g
  · have := hk.no m hp g
    simp only [h.b0, hs] at this
    cases this
  · exact g

theorem vF_tail {y : ByteArray} {m p : Nat} (h : Tail y m) (hp : p ≤ m + 1) (hn : ¬ p = m) : ((vF y p).2.2 = 2 ∧ (vF y p).2.1 = m + 2) ∨ ((vF y p).2.2 = 1 ∧ (vF y p).2.1 ≤ m) := by
  have hz := h.size
  unfold vF
  rw [if_neg (by omega)]
  by_cases h1 : p = m + 1
  · rw [if_pos (by rw [h1]; exact h.b1)]
    exact Or.inl ⟨rfl, by show p + 1 = _; omega⟩
  · obtain ⟨g1, g2, g3⟩ := h.no p (by omega)
    obtain ⟨u1, u2⟩ := h.until ve_sp (p := p) (by omega)
    rw [if_neg g1, if_neg (fun e => e.elim g2 g3), if_neg (by omega)]
    exact Or.inr ⟨rfl, u2⟩

theorem aF_tail {y : ByteArray} {m q : Nat} (h : Tail y m) (hq : q < m) : ((aF y q).2.2 = 2 ∧ (aF y q).2.1 = m + 2) ∨ ((aF y q).2.2 = 1 ∧ (aF y q).2.1 ≤ m + 1) := by
  have hz := h.size
  obtain ⟨u1, u2⟩ := h.until ne_sp (p := q + 1) (by omega)
  unfold aF
  generalize untilF y NE (q + 1) = e at u1 u2 ⊢
  obtain ⟨s1, s2, s3⟩ := h.skip (p := e) (by omega)
  generalize skipF y e = k at s1 s2 s3 ⊢
  rw [if_neg (by omega)]
  by_cases h1 : st y k EQ = false
  · rw [if_pos h1]
    exact Or.inr ⟨rfl, s2⟩
  rw [if_neg h1]
  have hb := (eq_is.1 (by simpa using h1)).2
  have hk : k < m := by
    rcases (show k < m ∨ k = m + 1 by omega) with g | g
    · exact g
    · rw [g, h.b1] at hb
      exact absurd hb (by decide)
  obtain ⟨j1, j2, j3⟩ := h.skip (p := k + 1) (by omega)
  generalize skipF y (k + 1) = j at j1 j2 j3 ⊢
  rcases vF_tail h j2 j3 with ⟨v1, v2⟩ | ⟨v1, v2⟩
  · rw [if_neg (by rw [v1]; decide)]
    exact Or.inl ⟨v1, v2⟩
  · rw [if_neg (by rw [v1]; decide)]
    exact Or.inr ⟨v1, by show (vF y j).2.1 ≤ _; omega⟩

theorem rF_tail {y : ByteArray} {m : Nat} (h : Tail y m) : ∀ (n p : Nat) (l : List Att), p ≤ m + 1 → y.size + 1 - p ≤ n → (rF y n p l).2.2 = m + 2
  | 0, p, l, hp, hn => by have := h.size; omega
  | n + 1, p, l, hp, hn => by
    have hz := h.size
    obtain ⟨s1, s2, s3⟩ := h.skip hp
    unfold rF
    generalize skipF y p = q at s1 s2 s3 ⊢
    rw [if_neg (by omega)]
    by_cases h1 : q = m + 1
    · rw [if_pos (by rw [h1]; exact h.b1)]
      show q + 1 = _
      omega
    have hq : q < m := by omega
    rw [if_neg (h.no q hq).1]
    have hsg : ¬ st y q SG = true := fun e => by
      have g := (sg_is.1 e).2.2
      rcases (show q + 1 < m ∨ q + 1 = m by omega) with c | c
      · exact (h.no (q + 1) c).1 g
      · rw [c, h.b0] at g
        exact absurd g (by decide)
    rw [if_neg hsg]
    by_cases h2 : bt y q = 47
    · rw [if_pos h2]
      exact rF_tail h n (q + 1) l (by omega) (by omega)
    rw [if_neg h2]
    obtain ⟨a1, a2, _⟩ := aF_goes (s := y) (p := q) (by omega)
    rcases aF_tail h hq with ⟨v1, v2⟩ | ⟨v1, v2⟩
    · rw [if_neg (by rw [v1]; decide), if_pos v1]
      exact v2
    · rw [if_neg (by rw [v1]; decide), if_neg (by rw [v1]; decide)]
      exact rF_tail h n _ _ v2 (by omega)

theorem told_tag {x : ByteArray} {k : Int} {f : Nat} (h : Opn x k f) (hc : Clean x) : (tagF (x ++ ⟨#[32, 62]⟩) 0).2 = ((x.size : Int) + 2, true) ∧ 0 < (tagF (x ++ ⟨#[32, 62]⟩) 0).1.2.1.size := by
  have ht := tail_of hc
  have ho := h.cat ⟨#[32, 62]⟩
  rw [ho.tag]
  have hfx := h.size
  generalize x ++ ⟨#[32, 62]⟩ = y at ht ho
  generalize x.size = m at ht hfx
  have hz := ht.size
  obtain ⟨g1, g2, _⟩ := name_right ho.size ho.let'
  have hnm : nameF y f ≤ m := by
    have hn := name_is y (p := f) (by omega)
    generalize nameF y f = q at hn
    rcases Nat.lt_or_ge m q with g | g
    · have := hn.no m (by omega) g
      simp only [ht.b0] at this
      exact absurd this (by decide)
    · exact g
  have he : (inF y (nameF y f) []).2.2 = m + 2 := rF_tail ht _ _ _ (by omega) (Nat.le_refl _)
  have hlo : 0 < (lower (y.extract f (nameF y f))).size := by rw [lower_size, ByteArray.size_extract]; omega
  unfold wholeF
  rw [if_neg (by omega)]
  rcases ho.kind with rfl | rfl
  · rw [if_pos rfl]
    exact ⟨by show ((((inF y (nameF y f) []).2.2 : Nat) : Int), true) = _; rw [he]; rfl, hlo⟩
  · rw [if_neg (by decide)]
    exact ⟨by show ((((inF y (nameF y f) []).2.2 : Nat) : Int), true) = _; rw [he]; rfl, hlo⟩

theorem some_text {x : ByteArray} (h : 0 < x.size) : x.toList.isEmpty = false := by
  rw [ByteArray.toList_eq]
  cases hx : x.data.toList with
  | nil =>
    have : x.data.toList.length = 0 := by rw [hx]; rfl
    rw [Array.length_toList] at this
    have h2 : x.size = x.data.size := rfl
    omega
  | cons a l => rfl

end Go.Proofs.YtgebdaanglmnnaaDoor
