/-
  The document's Right, of any token that is not too long: all ways together.
-/
import Derived.Test.YtgeebmlincddkaaJudgeC
import Derived.Test.YtgeebmlincddkaaJudgeE
namespace Go.Proofs.Ytgeebmlincddkaa
open Go.RowKit Utf

theorem is1 (x y : ByteArray) (l : List Att) (b : Bool) : right (1, x, l, b, y) = (eqs (lower x) x && (l.isEmpty && !b && eqs y ⟨#[]⟩)) := by
  have : right (1, x, l, b, y) = (decide (lower x = x) && decide (((1, x, l, b, y) : Tok) = (1, x, [], false, ⟨#[]⟩))) := rfl
  rw [this, plain_eq, eqs_refl, Bool.true_and]
  congr 1
  rw [Bool.eq_iff_iff, decide_eq_true_eq, eqs_iff]

theorem is2 (x y : ByteArray) (l : List Att) (b : Bool) : right (2, x, l, b, y) = (tagName x && areRight l && eqs y ⟨#[]⟩) := rfl

theorem is3 (x y : ByteArray) (l : List Att) (b : Bool) : right (3, x, l, b, y) = (tagName x && (l.isEmpty && !b && eqs y ⟨#[]⟩)) := by
  have : right (3, x, l, b, y) = (tagName x && decide (((3, x, l, b, y) : Tok) = (3, x, [], false, ⟨#[]⟩))) := rfl
  rw [this, plain_eq, eqs_refl, Bool.true_and]

theorem tag_parts (x : ByteArray) : tagName x = (isLet (bt x 0) && (bytesOf x).all okB && eqs (lower x) x) := by
  unfold tagName
  congr 1
  rw [Bool.eq_iff_iff, decide_eq_true_eq, eqs_iff]

theorem size_pos {x : ByteArray} (h : eqs x ⟨#[]⟩ = false) : 0 < x.size := by
  rcases Nat.eq_zero_or_pos x.size with h0 | h0
  · have : x = ⟨#[]⟩ := ByteArray.ext (Array.eq_empty_of_size_eq_zero h0)
    rw [this, eqs_refl] at h
    cases h
  · exact h0

theorem judge1 (w : World) (x y : ByteArray) (l : List Att) (b : Bool) (ao : Option Addr) (n c : Nat) (hr : Rp w ao n c l) (hx : x.size ≤ 100000) :
    Calls Try.prog 16 #[tv 1 x ao n c b y] w fun e w' => e = .returned (.bool (right (1, x, l, b, y))) ∧ Kp [] w w' := by
  obtain rfl := hr.len
  rw [is1]
  have hE := len_empty l
  cases hD : eqs (lower x) x
  · exact judge1a w x y b ao l.length c hx hD
  cases hl : l.isEmpty
  · rw [hl] at hE
    exact judge1b w x y b ao l.length c hx hD hE
  rw [hl] at hE
  cases b
  · cases hY : eqs y ⟨#[]⟩
    · exact judge1d w x y ao l.length c hx hD hE (empty_no hY)
    · exact judge1e w x y ao l.length c hx hD hE (empty_yes hY)
  · exact judge1c w x y ao l.length c hx hD hE

theorem judge2 (w : World) (x y : ByteArray) (l : List Att) (b : Bool) (ao : Option Addr) (n c : Nat) (hr : Rp w ao n c l) (hn : n ≤ 1000) (hx : x.size ≤ 100000) :
    Calls Try.prog 16 #[tv 2 x ao n c b y] w fun e w' => e = .returned (.bool (right (2, x, l, b, y))) ∧ Kp [] w w' := by
  rw [is2]
  cases hY : eqs y ⟨#[]⟩
  · rw [Bool.and_false]
    exact judge2T w x y b ao n c (empty_no hY)
  rw [Bool.and_true]
  cases hX : eqs x ⟨#[]⟩
  · have h0 := size_pos hX
    rw [tag_parts]
    cases hL : isLet (bt x 0)
    · exact judge2L w x y b ao n c (empty_yes hY) (empty_no hX) h0 hL
    cases hD : eqs (lower x) x
    · rw [Bool.and_false, Bool.false_and]
      exact judge2W w x y b ao n c hx (empty_yes hY) (empty_no hX) h0 hL hD
    · rw [Bool.and_true, Bool.true_and]
      exact judge2G w x y b ao n c hx (empty_yes hY) (empty_no hX) h0 hL hD l hr hn
  · rw [eqs_iff.1 hX, tagName_nil, Bool.false_and]
    exact judge2E w ⟨#[]⟩ y b ao n c (empty_yes hY) (empty_yes (eqs_refl _))

theorem judge3 (w : World) (x y : ByteArray) (l : List Att) (b : Bool) (ao : Option Addr) (n c : Nat) (hr : Rp w ao n c l) (hn : n ≤ 1000) (hx : x.size ≤ 100000) :
    Calls Try.prog 16 #[tv 3 x ao n c b y] w fun e w' => e = .returned (.bool (right (3, x, l, b, y))) ∧ Kp [] w w' := by
  rw [is3]
  have hlen := hr.len
  have hE : decide (0 < n) = !l.isEmpty := by rw [hlen]; exact len_pos l
  cases hY : eqs y ⟨#[]⟩
  · rw [Bool.and_false, Bool.and_false]
    exact judge3T w x y b ao n c (empty_no hY)
  rw [Bool.and_true]
  cases b
  · cases hl : l.isEmpty
    · rw [hl] at hE
      rw [Bool.false_and, Bool.and_false]
      exact judge3N w x y ao n c (empty_yes hY) hE
    rw [hl] at hE
    have hl0 : l = [] := List.isEmpty_iff.1 hl
    rw [show (tagName x && (true && !false)) = tagName x by simp]
    cases hX : eqs x ⟨#[]⟩
    · have h0 := size_pos hX
      rw [tag_parts]
      cases hL : isLet (bt x 0)
      · exact judge3L w x y ao n c (empty_yes hY) hE (empty_no hX) h0 hL
      cases hD : eqs (lower x) x
      · rw [Bool.and_false]
        exact judge3W w x y ao n c hx (empty_yes hY) hE (empty_no hX) h0 hL hD
      · rw [Bool.and_true, Bool.true_and]
        have := judge3G w x y ao n c hx (empty_yes hY) hE (empty_no hX) h0 hL hD l hr hn
        rw [hl0, show areRight [] = true from rfl, Bool.and_true] at this
        exact this
    · rw [eqs_iff.1 hX, tagName_nil]
      exact judge3E w ⟨#[]⟩ y ao n c (empty_yes hY) hE (empty_yes (eqs_refl _))
  · rw [show (tagName x && (l.isEmpty && !true)) = false by simp]
    exact judge3S w x y ao n c (empty_yes hY)

theorem judge_any (w : World) (k : Int) (x y : ByteArray) (l : List Att) (b : Bool) (ao : Option Addr) (n c : Nat) (hr : Rp w ao n c l) (hn : n ≤ 1000) (hx : x.size ≤ 100000) :
    Calls Try.prog 16 #[tv k x ao n c b y] w fun e w' => e = .returned (.bool (right (k, x, l, b, y))) ∧ Kp [] w w' := by
  by_cases h1 : k = 1
  · subst h1
    exact judge1 w x y l b ao n c hr hx
  by_cases h2 : k = 2
  · subst h2
    exact judge2 w x y l b ao n c hr hn hx
  by_cases h3 : k = 3
  · subst h3
    exact judge3 w x y l b ao n c hr hn hx
  by_cases h4 : k = 4
  · subst h4
    exact judge4 w x y l b ao n c hr
  by_cases h5 : k = 5
  · subst h5
    exact judge5 w x y l b ao n c hr
  by_cases h6 : k = 6
  · subst h6
    exact judge6 w x y l b ao n c hr
  exact judge0 w k x y l b ao n c h1 h2 h3 h4 h5 h6

end Go.Proofs.Ytgeebmlincddkaa
