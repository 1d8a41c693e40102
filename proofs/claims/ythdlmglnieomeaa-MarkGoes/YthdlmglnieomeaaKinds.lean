/-
  Kinds of runes: the program's and the document's Space, Letter, Digit and Hex, of any rune.
-/
import Derived.Test.YthdlmglnieomeaaBase
namespace Go.Proofs.Ythdlmglnieomeaa
open Go.RowKit Utf

def isSp (x : Int) : Bool := decide (x = 9 ∨ x = 10 ∨ x = 12 ∨ x = 13 ∨ x = 32)
def isLet (x : Int) : Bool := decide ((97 ≤ x ∧ x ≤ 122) ∨ (65 ≤ x ∧ x ≤ 90))
def isDig (x : Int) : Bool := decide (48 ≤ x ∧ x ≤ 57)
def isHex (x : Int) : Bool := decide ((48 ≤ x ∧ x ≤ 57) ∨ (97 ≤ x ∧ x ≤ 102) ∨ (65 ≤ x ∧ x ≤ 70))
def hexv (x : Int) : Int := if 48 ≤ x ∧ x ≤ 57 then x - 48 else if 97 ≤ x ∧ x ≤ 102 then x - 87 else if 65 ≤ x ∧ x ≤ 70 then x - 55 else 0

/-- A rune, as a number of 32 bits. -/
def int32 (r : Int) : Prop := -2147483648 ≤ r ∧ r ≤ 2147483647



theorem space_any (w : World) (r : Int) : Calls Try.prog 41 #[.int .i32 r] w fun e w' => e = .returned (.bool (isSp r)) ∧ w' = w := by
  by_cases h1 : r = 9
  · subst h1
    go_enter Try.func41, Try.ntmps41
    go_wp2
    go_ret
    exact ⟨rfl, rfl⟩
  by_cases h2 : r = 10
  · subst h2
    go_enter Try.func41, Try.ntmps41
    go_wp2
    go_ret
    exact ⟨rfl, rfl⟩
  by_cases h3 : r = 12
  · subst h3
    go_enter Try.func41, Try.ntmps41
    go_wp2
    go_ret
    exact ⟨rfl, rfl⟩
  by_cases h4 : r = 13
  · subst h4
    go_enter Try.func41, Try.ntmps41
    go_wp2
    go_ret
    exact ⟨rfl, rfl⟩
  by_cases h5 : r = 32
  · subst h5
    go_enter Try.func41, Try.ntmps41
    go_wp2
    go_ret
    exact ⟨rfl, rfl⟩
  · have hs : isSp r = false := by simp [isSp, h1, h2, h3, h4, h5]
    go_enter Try.func41, Try.ntmps41
    go_wp2
    go_ret
    exact ⟨by rw [hs]; rfl, rfl⟩

theorem ref_space_any (w : World) (r : Int) : Calls Try.prog 46 #[.int .i32 r] w fun e w' => e = .returned (.bool (isSp r)) ∧ w' = w := by
  by_cases h1 : r = 9
  · subst h1
    go_enter Try.func46, Try.ntmps46
    go_wp2
    go_ret
    exact ⟨rfl, rfl⟩
  by_cases h2 : r = 10
  · subst h2
    go_enter Try.func46, Try.ntmps46
    go_wp2
    go_ret
    exact ⟨rfl, rfl⟩
  by_cases h3 : r = 12
  · subst h3
    go_enter Try.func46, Try.ntmps46
    go_wp2
    go_ret
    exact ⟨rfl, rfl⟩
  by_cases h4 : r = 13
  · subst h4
    go_enter Try.func46, Try.ntmps46
    go_wp2
    go_ret
    exact ⟨rfl, rfl⟩
  by_cases h5 : r = 32
  · subst h5
    go_enter Try.func46, Try.ntmps46
    go_wp2
    go_ret
    exact ⟨rfl, rfl⟩
  · have hs : isSp r = false := by simp [isSp, h1, h2, h3, h4, h5]
    have b1 : (r == 9) = false := by simpa using h1
    have b2 : (r == 10) = false := by simpa using h2
    have b3 : (r == 12) = false := by simpa using h3
    have b4 : (r == 13) = false := by simpa using h4
    have b5 : (r == 32) = false := by simpa using h5
    clear h1 h2 h3 h4 h5
    go_enter Try.func46, Try.ntmps46
    go_wp2
    go_ret
    exact ⟨by rw [hs]; rfl, rfl⟩

theorem letter_any (w : World) (r : Int) : Calls Try.prog 32 #[.int .i32 r] w fun e w' => e = .returned (.bool (isLet r)) ∧ w' = w := by
  go_enter Try.func32, Try.ntmps32
  go_wp2
  all_goals
    go_ret
    refine ⟨?_, rfl⟩
    congr 2
    simp [isLet]
    try omega

theorem ref_letter_any (w : World) (r : Int) : Calls Try.prog 24 #[.int .i32 r] w fun e w' => e = .returned (.bool (isLet r)) ∧ w' = w := by
  go_enter Try.func24, Try.ntmps24
  go_wp2
  all_goals
    go_ret
    refine ⟨?_, rfl⟩
    congr 2
    simp [isLet]
    try (first | omega | (rw [Bool.eq_iff_iff]; simp; omega))



theorem hex_dig {r : Int} (h : 48 ≤ r ∧ r ≤ 57) : isHex r = true ∧ hexv r = r - 48 ∧ isDig r = true := by
  simp [isHex, hexv, isDig, h]
theorem hex_low {r : Int} (h : 97 ≤ r ∧ r ≤ 102) : isHex r = true ∧ hexv r = r - 87 ∧ isDig r = false := by
  have : ¬ (48 ≤ r ∧ r ≤ 57) := by omega
  simp [isHex, hexv, isDig, h]
  omega
theorem hex_high {r : Int} (h : 65 ≤ r ∧ r ≤ 70) : isHex r = true ∧ hexv r = r - 55 ∧ isDig r = false := by
  have h1 : ¬ (48 ≤ r ∧ r ≤ 57) := by omega
  have h2 : ¬ (97 ≤ r ∧ r ≤ 102) := by omega
  refine ⟨by simp [isHex, h], by simp only [hexv, if_neg h1, if_neg h2, if_pos h], by simp [isDig]; omega⟩
theorem hex_none {r : Int} (h1 : ¬ (48 ≤ r ∧ r ≤ 57)) (h2 : ¬ (97 ≤ r ∧ r ≤ 102)) (h3 : ¬ (65 ≤ r ∧ r ≤ 70)) : isHex r = false ∧ hexv r = 0 ∧ isDig r = false := by
  refine ⟨by simp [isHex]; omega, by simp only [hexv, if_neg h1, if_neg h2, if_neg h3], by simp [isDig]; omega⟩

theorem hexv_range (r : Int) : 0 ≤ hexv r ∧ hexv r ≤ 15 := by
  unfold hexv
  repeat' split
  all_goals omega


end Go.Proofs.Ythdlmglnieomeaa
