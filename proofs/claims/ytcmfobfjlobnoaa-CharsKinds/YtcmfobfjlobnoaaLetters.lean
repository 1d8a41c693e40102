/-
  Runes told by their texts: of what kinds a rune may be, and how its text, in small letters, stands to a and z; no program is spoken of here.
-/
import Derived.Test.YtcmfobfjlobnoaaKinds
import Derived.Test.YtcmfobfjlobnoaaLow
namespace Go.Proofs.Ytcmfobfjlobnoaa
open Go.RowKit Utf

/-- The text of a rune in small letters begins with b. -/
theorem lower_head {c b : Int} {r : List Int} (h : enc c = b :: r) : (lower (Utf8.encode c)).toList = UInt8.ofNat (low b).toNat :: (r.map low).map (fun n => UInt8.ofNat n.toNat) := by
  rw [Lib.toList_data, lower, strOfNums_data]
  rw [show bytesOf (Utf8.encode c) = b :: r from h]
  rfl

/-- Less than a text of one byte. -/
theorem less_one (a b : UInt8) (r : List UInt8) : Op.bytesLess (a :: r) [b] = decide (a < b) := by
  cases r <;> simp [Op.bytesLess]

theorem of_lt {a : Int} {k : Nat} (h0 : 0 ≤ a) (h1 : a < 256) (hk : k < 256) : (UInt8.ofNat a.toNat < UInt8.ofNat k) ↔ a < k := by
  rw [UInt8.lt_iff_toNat_lt]
  simp
  omega

/-- How the text of a rune stands to a and z. -/
theorem near {c : Int} (h : good c) :
    (isLet c = true ∧ Op.bytesLess (lower (Utf8.encode c)).toList [97] = false ∧ (Op.bytesLess (lower (Utf8.encode c)).toList [122] || (lower (Utf8.encode c)).toList == [122]) = true ∧ (Utf8.encode c).size = 1) ∨
    (isLet c = false ∧ c < 123 ∧ Op.bytesLess (lower (Utf8.encode c)).toList [97] = true) ∨
    (isLet c = false ∧ 123 ≤ c ∧ Op.bytesLess (lower (Utf8.encode c)).toList [97] = false ∧ (Op.bytesLess (lower (Utf8.encode c)).toList [122] || (lower (Utf8.encode c)).toList == [122]) = false) := by
  have hg := h
  unfold good at hg
  have e97 : (97 : UInt8) = UInt8.ofNat 97 := rfl
  have e122 : (122 : UInt8) = UInt8.ofNat 122 := rfl
  by_cases h1 : c < 128
  · have he : enc c = [c] := by rw [enc_good h, if_pos h1]
    have hl : 0 ≤ low c ∧ low c < 256 := by unfold low; split <;> omega
    have ht := lower_head he
    simp only [List.map_nil] at ht
    have hs : (Utf8.encode c).size = 1 := by rw [← bytes_len, show bytesOf (Utf8.encode c) = [c] from he]; rfl
    have a1 : Op.bytesLess (lower (Utf8.encode c)).toList [97] = decide (low c < 97) := by
      rw [ht, less_one, e97]
      exact decide_eq_decide.2 (of_lt hl.1 hl.2 (by omega))
    have a2 : Op.bytesLess (lower (Utf8.encode c)).toList [122] = decide (low c < 122) := by
      rw [ht, less_one, e122]
      exact decide_eq_decide.2 (of_lt hl.1 hl.2 (by omega))
    have a3 : ((lower (Utf8.encode c)).toList == [122]) = decide (low c = 122) := by
      rw [ht]
      by_cases hz : low c = 122
      · rw [hz]
        rfl
      · rw [decide_eq_false hz]
        simp
        intro e
        apply hz
        have := congrArg UInt8.toNat e
        simp at this
        omega
    rw [a1, a2, a3]
    by_cases hlet : isLet c = true
    · left
      simp only [isLet, decide_eq_true_eq] at hlet
      have hr : 97 ≤ low c ∧ low c ≤ 122 := by unfold low; split <;> omega
      refine ⟨by simpa [isLet] using hlet, decide_eq_false (by omega), ?_, hs⟩
      by_cases hz : low c = 122
      · simp [hz]
      · simp
        omega
    · right
      have hlet2 : isLet c = false := by simpa using hlet
      simp only [isLet, decide_eq_true_eq] at hlet
      by_cases hc : c < 123
      · left
        refine ⟨hlet2, hc, decide_eq_true ?_⟩
        unfold low
        split <;> omega
      · right
        have hr : low c = c := by unfold low; split <;> omega
        rw [hr]
        refine ⟨hlet2, by omega, decide_eq_false (by omega), ?_⟩
        simp
        omega
  · right
    right
    have hlet : isLet c = false := by simp [isLet]; omega
    obtain ⟨b, r, he, hb⟩ : ∃ b r, enc c = b :: r ∧ 192 ≤ b ∧ b < 256 := by
      rw [enc_good h, if_neg h1]
      split
      · exact ⟨_, _, rfl, by omega⟩
      split
      · exact ⟨_, _, rfl, by omega⟩
      · exact ⟨_, _, rfl, by omega⟩
    have ht := lower_head he
    have hl : low b = b := by unfold low; split <;> omega
    rw [hl] at ht
    refine ⟨hlet, by omega, ?_, ?_⟩
    · rw [ht, less_one, e97]
      exact decide_eq_false (fun e => by have := (of_lt (by omega) (by omega) (by omega)).1 e; omega)
    · rw [ht, less_one, e122, decide_eq_false (fun e => by have := (of_lt (by omega) (by omega) (by omega)).1 e; omega)]
      simp
      intro e
      have := congrArg UInt8.toNat e
      simp at this
      omega

/-- Of what kinds a rune may be. -/
theorem ways {c : Int} (h : good c) :
    (isSp c = true ∧ isLet c = false ∧ isDig c = false ∧ isHex c = false ∧ Op.bytesLess (lower (Utf8.encode c)).toList [97] = true) ∨
    (isSp c = false ∧ isLet c = false ∧ isDig c = true ∧ isHex c = true ∧ Op.bytesLess (lower (Utf8.encode c)).toList [97] = true) ∨
    (isSp c = false ∧ isLet c = false ∧ isDig c = false ∧ isHex c = false ∧ Op.bytesLess (lower (Utf8.encode c)).toList [97] = true) ∨
    (isSp c = false ∧ isLet c = true ∧ isDig c = false ∧ isHex c = true ∧ Op.bytesLess (lower (Utf8.encode c)).toList [97] = false ∧ (Op.bytesLess (lower (Utf8.encode c)).toList [122] || (lower (Utf8.encode c)).toList == [122]) = true ∧ (Utf8.encode c).size = 1) ∨
    (isSp c = false ∧ isLet c = true ∧ isDig c = false ∧ isHex c = false ∧ Op.bytesLess (lower (Utf8.encode c)).toList [97] = false ∧ (Op.bytesLess (lower (Utf8.encode c)).toList [122] || (lower (Utf8.encode c)).toList == [122]) = true ∧ (Utf8.encode c).size = 1) ∨
    (isSp c = false ∧ isLet c = false ∧ isDig c = false ∧ isHex c = false ∧ Op.bytesLess (lower (Utf8.encode c)).toList [97] = false ∧ (Op.bytesLess (lower (Utf8.encode c)).toList [122] || (lower (Utf8.encode c)).toList == [122]) = false) := by
  rcases near h with ⟨h1, h2, h3, h4⟩ | ⟨h1, h2, h3⟩ | ⟨h1, h2, h3, h4⟩
  · have hl := h1
    simp only [isLet, decide_eq_true_eq] at hl
    have hs : isSp c = false := by simp [isSp]; omega
    have hd : isDig c = false := by simp [isDig]; omega
    cases hx : isHex c
    · exact Or.inr (Or.inr (Or.inr (Or.inr (Or.inl ⟨hs, h1, hd, rfl, h2, h3, h4⟩))))
    · exact Or.inr (Or.inr (Or.inr (Or.inl ⟨hs, h1, hd, rfl, h2, h3, h4⟩)))
  · have hl := h1
    simp only [isLet, decide_eq_false_iff_not] at hl
    by_cases hd : isDig c = true
    · have hd2 := hd
      simp only [isDig, decide_eq_true_eq] at hd2
      exact Or.inr (Or.inl ⟨by simp [isSp]; omega, h1, hd, by simp [isHex]; omega, h3⟩)
    · have hd1 : isDig c = false := by simpa using hd
      simp only [isDig, decide_eq_true_eq] at hd
      have hx : isHex c = false := by simp [isHex]; omega
      cases hs : isSp c
      · exact Or.inr (Or.inr (Or.inl ⟨rfl, h1, hd1, hx, h3⟩))
      · exact Or.inl ⟨rfl, h1, hd1, hx, h3⟩
  · exact Or.inr (Or.inr (Or.inr (Or.inr (Or.inr ⟨by simp [isSp]; omega, h1, by simp [isDig]; omega, by simp [isHex]; omega, h3, h4⟩))))

end Go.Proofs.Ytcmfobfjlobnoaa
