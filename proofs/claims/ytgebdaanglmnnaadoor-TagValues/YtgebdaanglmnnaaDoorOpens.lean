/-
  Texts that begin as a tag. No program.
-/
import Derived.Test.YtgebdaanglmnnaaDoorEnds
import Derived.Test.YtgebdaanglmnnaaDoorBare
namespace Go.Proofs.YtgebdaanglmnnaaDoor
open Go.RowKit Utf
set_option linter.unusedVariables false

/-- It begins with a tag of that kind, the name at f. -/
structure Opn (t : ByteArray) (k : Int) (f : Nat) : Prop where
  size : f < t.size
  b0 : bt t 0 = 60
  bf : bt t f = 97
  mid : (k = 2 ∧ f = 1) ∨ (k = 3 ∧ f = 2 ∧ bt t 1 = 47)

theorem Opn.cat {t : ByteArray} {k : Int} {f : Nat} (h : Opn t k f) (m : ByteArray) : Opn (t ++ m) k f := by
  have h1 := h.size
  refine ⟨by rw [cat_size]; omega, by rw [bt_left t m (by omega)]; exact h.b0, by rw [bt_left t m h1]; exact h.bf, ?_⟩
  rcases h.mid with g | ⟨g1, g2, g3⟩
  · exact Or.inl g
  · exact Or.inr ⟨g1, g2, by rw [bt_left t m (by omega)]; exact g3⟩
theorem Opn.agr {t u : ByteArray} {k : Int} {f n : Nat} (h : Opn t k f) (a : Agr t u n) (hf : f < n) : Opn u k f := by
  have h1 := a.ht
  refine ⟨by omega, by rw [← a.at' 0 (by omega)]; exact h.b0, by rw [← a.at' f hf]; exact h.bf, ?_⟩
  rcases h.mid with g | ⟨g1, g2, g3⟩
  · exact Or.inl g
  · exact Or.inr ⟨g1, g2, by rw [← a.at' 1 (by omega)]; exact g3⟩
theorem Opn.let' {t : ByteArray} {k : Int} {f : Nat} (h : Opn t k f) : isLet (bt t f) = true := by rw [h.bf]; decide
theorem Opn.kind {t : ByteArray} {k : Int} {f : Nat} (h : Opn t k f) : k = 2 ∨ k = 3 := by
  rcases h.mid with g | g
  · exact Or.inl g.1
  · exact Or.inr g.1
theorem Opn.tag {t : ByteArray} {k : Int} {f : Nat} (h : Opn t k f) : tagF t 0 = wholeF t k f := by
  have h1 := h.size
  have hb : begF t 0 = (k, f) := by
    rcases h.mid with ⟨rfl, rfl⟩ | ⟨rfl, rfl, g3⟩
    · have h4 : st t (0 + 1) SL = false := by
        cases hx : st t (0 + 1) SL with
        | false => rfl
        | true =>
          have : bt t 1 = 47 := st_at hx 0 (by decide)
          rw [h.bf] at this
          exact absurd this (by decide)
      rw [show (0 : Int) = ((0 : Nat) : Int) from rfl, beg_start (by omega) h.b0 h4, if_pos h.let']
    · have h4 : st t (0 + 1) SL = true := st_true (by show 0 + 1 + 1 ≤ t.size; omega) fun j hj => by
        have hj1 : j < 1 := hj
        obtain rfl : j = 0 := by omega
        exact g3
      rw [show (0 : Int) = ((0 : Nat) : Int) from rfl, beg_end (by omega) h.b0 h4, if_pos h.let']
  exact tag_some hb (by rcases h.kind with rfl | rfl <;> decide)

theorem opn_start : Opn ⟨#[60, 97]⟩ 2 1 := ⟨by decide, by decide, by decide, Or.inl ⟨rfl, rfl⟩⟩
theorem opn_end : Opn ⟨#[60, 47, 97]⟩ 3 2 := ⟨by decide, by decide, by decide, Or.inr ⟨rfl, rfl, by decide⟩⟩

theorem agr_cut (t m : ByteArray) {e : Nat} (he : e ≤ t.size) : Agr t (t.extract 0 e ++ m) e := by
  have hz : (t.extract 0 e).size = e := by rw [ByteArray.size_extract]; omega
  refine ⟨he, by rw [cat_size, hz]; omega, fun j hj => ?_⟩
  rw [bt_left _ _ (by omega), bt_cut t 0 e j (by omega) he, Nat.zero_add]

theorem fits_uniq {l : List Att} (h : fits l) : fits (uniq l) := fits_more l (fun a ha => by simp at ha) h

/-- What is told of such a text. -/
theorem Opn.facts {t : ByteArray} {k : Int} {f : Nat} (h : Opn t k f) (hs : t.size ≤ 380) : (tagF t 0 = (zt, (t.size : Int), false)) ∨
    ∃ e : Nat, (tagF t 0).2 = ((e : Int), true) ∧ 3 ≤ e ∧ e ≤ t.size ∧ bt t (e - 1) = 62 ∧ right (tagF t 0).1 = true ∧ fits (tagF t 0).1.2.2.1 ∧ (tagF t 0).1.2.1.size ≤ t.size ∧ ∀ m, tagF (t.extract 0 e ++ m) 0 = tagF t 0 := by
  rw [h.tag]
  rcases whole_told (k := k) h.size h.let' with g | ⟨e, g1, g2, g3, g4⟩
  · exact Or.inl g
  refine Or.inr ⟨e, g1, ?_, g3, g4, whole_right h.kind h.size h.let' (by rw [g1]), ?_, ?_, fun m => ?_⟩
  · rcases h.mid with ⟨_, rfl⟩ | ⟨_, rfl, _⟩ <;> omega
  · unfold wholeF
    split
    · exact fun a ha => by simp [zt] at ha
    split
    · exact fits_uniq (in_fits (by omega) _)
    · exact fun a ha => by simp at ha
  · unfold wholeF
    have hz : ∀ a b : Nat, (lower (t.extract a b)).size ≤ t.size := fun a b => by rw [lower_size]; exact cut_le t a b
    split
    · exact Nat.zero_le _
    split
    · exact hz _ _
    · exact hz _ _
  · have ha := agr_cut t m g3
    rw [(h.agr ha (by omega)).tag]
    exact whole_agr ha (Nat.le_of_lt h.size) (by rw [g1]) (by rw [g1]; exact Int.le_refl _)

end Go.Proofs.YtgebdaanglmnnaaDoor
