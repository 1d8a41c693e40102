/-
  A comment that is written is read. No program.
-/
import Derived.Test.YthdlmglnieomeaaMarks
import Derived.Test.YthdlmglnieomeaaSpaces
namespace Go.Proofs.Ythdlmglnieomeaa
open Go.RowKit Utf
set_option linter.unusedVariables false

/-- None of the signs that end a comment. -/
def Pure (x : ByteArray) : Prop := ∀ j, j < x.size → ¬ bt x j = 45 ∧ ¬ bt x j = 62

theorem pure_nil : Pure ⟨#[]⟩ := fun j hj => by
  have : j < 0 := hj
  omega

theorem Pure.cat {x y : ByteArray} (h : Pure x) (k : Pure y) : Pure (x ++ y) := fun j hj => by
  rw [cat_size] at hj
  by_cases h1 : j < x.size
  · rw [bt_left x y h1]
    exact h j h1
  · rw [show j = x.size + (j - x.size) by omega, bt_right]
    exact k _ (by omega)

theorem pure_rune {r : Int} (h : good r) (h1 : ¬ r = 45) (h2 : ¬ r = 62) : Pure (Utf8.encode r) := fun j hj => by
  have hm : bt (Utf8.encode r) j ∈ enc r := by
    unfold enc bt
    have hl : j < (bytesOf (Utf8.encode r)).length := by rw [bytes_len]; exact hj
    rw [List.getD_eq_getElem?_getD, List.getElem?_eq_getElem hl, Option.getD_some]
    exact List.getElem_mem hl
  rcases enc_mem h hm with g | g
  · rw [g]; exact ⟨h1, h2⟩
  · omega

/-- It is written so. -/
def wr (x m : ByteArray) : ByteArray := ((COM ++ x) ++ E1) ++ m
theorem wr_size (x m : ByteArray) : (wr x m).size = x.size + 7 + m.size := by
  unfold wr
  rw [cat_size, cat_size, cat_size, show COM.size = 4 from rfl, show E1.size = 3 from rfl]
  omega
theorem wr_com (x m : ByteArray) {j : Nat} (h : j < 4) : bt (wr x m) j = bt COM j := by
  have e1 : COM.size = 4 := rfl
  unfold wr
  rw [bt_left _ _ (by rw [cat_size, cat_size]; omega), bt_left _ _ (by rw [cat_size]; omega), bt_left _ _ (by omega)]
theorem wr_in (x m : ByteArray) {j : Nat} (h : j < x.size) : bt (wr x m) (4 + j) = bt x j := by
  have e1 : COM.size = 4 := rfl
  unfold wr
  rw [bt_left _ _ (by rw [cat_size, cat_size]; omega), bt_left _ _ (by rw [cat_size]; omega)]
  have := bt_right COM x j
  rw [e1] at this
  exact this
theorem wr_end (x m : ByteArray) {j : Nat} (h : j < 3) : bt (wr x m) (4 + x.size + j) = bt E1 j := by
  have e1 : COM.size = 4 := rfl
  have e2 : E1.size = 3 := rfl
  unfold wr
  rw [bt_left _ _ (by rw [cat_size, cat_size]; omega)]
  have := bt_right (COM ++ x) E1 j
  rw [cat_size, e1] at this
  exact this

theorem wr_read (x m : ByteArray) (h : Pure x) : mkF (wr x m) 0 false = ((5, ⟨#[]⟩, x), ((x.size + 7 : Nat) : Int), true) := by
  have hz := wr_size x m
  have c0 : bt (wr x m) 0 = 60 := wr_com x m (by omega)
  have c1 : bt (wr x m) 1 = 33 := wr_com x m (by omega)
  have hb : begM (wr x m) 0 = true := decide_eq_true ⟨by omega, c0, Or.inl c1⟩
  have hE : st (wr x m) 0 EMP = false := st_not 1 (by decide) (by rw [c1]; decide)
  have hC : st (wr x m) 0 COM = true := st_true (by show 0 + 4 ≤ _; omega) fun j hj => by
    rw [Nat.zero_add]
    exact wr_com x m hj
  -- what stands at 4
  have h4 : ¬ bt (wr x m) 4 = 62 := by
    by_cases hx : 0 < x.size
    · rw [show 4 = 4 + 0 from rfl, wr_in x m hx]
      exact (h 0 hx).2
    · have := wr_end x m (j := 0) (by omega)
      rw [show 4 + x.size + 0 = 4 by omega] at this
      rw [this]
      decide
  have h5 : ¬ (bt (wr x m) 4 = 45 ∧ bt (wr x m) 5 = 62) := by
    rintro ⟨g1, g2⟩
    by_cases hx : 0 < x.size
    · rw [show 4 = 4 + 0 from rfl, wr_in x m hx] at g1
      exact (h 0 hx).1 g1
    · have := wr_end x m (j := 1) (by omega)
      rw [show 4 + x.size + 1 = 5 by omega, g2] at this
      exact absurd this (by decide)
  have hG : st (wr x m) 4 GT = false := st_not 0 (by decide) h4
  have hD : st (wr x m) 4 DGT = false := by
    cases hd : st (wr x m) 4 DGT with
    | false => rfl
    | true => exact absurd ⟨st_at hd 0 (by decide), st_at hd 1 (by decide)⟩ h5
  have hS : st (wr x m) (4 + x.size) E1 = true := st_true (by show 4 + x.size + 3 ≤ _; omega) fun j hj => wr_end x m hj
  have hp : pick (wr x m) (4 + x.size) ES = 3 := by unfold ES; rw [pick, if_pos hS]; rfl
  have he : eP (wr x m) ES 4 = 4 + x.size := fs_eq ⟨by omega, by omega, fun j g1 g2 => by
    refine decide_eq_false (fun g => g (pick_none _ _ _ fun y hy => ?_))
    have hj := wr_in x m (j := j - 4) (by omega)
    rw [show 4 + (j - 4) = j by omega] at hj
    have hn := (h (j - 4) (by omega)).1
    rw [← hj] at hn
    simp only [ES, List.mem_cons, List.mem_nil_iff, or_false] at hy
    rcases hy with rfl | rfl
    · exact st_not 0 (by decide) hn
    · exact st_not 0 (by decide) hn, fun _ => decide_eq_true (by rw [hp]; decide)⟩
  have hcut : (wr x m).extract 4 (4 + x.size) = x := by
    have hs2 : ((wr x m).extract 4 (4 + x.size)).size = x.size := by rw [ByteArray.size_extract]; omega
    refine bt_ext hs2 fun j hj => ?_
    rw [hs2] at hj
    rw [bt_cut _ _ _ _ (by omega) (by omega), wr_in x m hj]
  have hr : rdM (wr x m) 0 false = ((5, ⟨#[]⟩, x), x.size + 7) := by
    unfold rdM
    rw [if_neg (by rw [hE]; simp), if_pos hC]
    unfold cF
    rw [if_neg (by rw [Nat.zero_add, hG]; simp), if_neg (by rw [Nat.zero_add, hD]; simp), Nat.zero_add, if_neg (by rw [he]; omega)]
    unfold eN
    rw [he, hp, hcut]
    congr 1
    omega
  have := mk_yes hb false
  rw [hr] at this
  exact this

theorem html_read : mkF ⟨#[60, 33, 100, 111, 99, 116, 121, 112, 101, 32, 104, 116, 109, 108, 62]⟩ 0 true = ((1, ⟨#[104, 116, 109, 108]⟩, ⟨#[]⟩), 15, true) := by decide +kernel

end Go.Proofs.Ythdlmglnieomeaa
