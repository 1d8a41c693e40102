/-
  Texts rune by rune and byte by byte: what a range tells of kinds; the program's and the document's Spaces, of any text.
-/
import Derived.Test.YthdlmglnieomeaaKinds
namespace Go.Proofs.Ythdlmglnieomeaa
open Go.RowKit Utf

/-- Are all bytes Spaces? -/
def spaces (s : ByteArray) : Bool := (bytesOf s).all isSp

theorem get_is (s : ByteArray) (j : Nat) (h : j < s.size) : s.get! j = s[j] := get_at s j h

/-- What a range tells: a byte below 128, or some that are not. -/
theorem decode_parts (s : ByteArray) (i : Nat) (h : i < s.size) :
    (((s[i]'h).toNat < 128 ∧ Utf8.decode s i = ((s[i]'h).toNat, 1)) ∨
     (128 ≤ (s[i]'h).toNat ∧ 128 ≤ (Utf8.decode s i).1 ∧ 1 ≤ (Utf8.decode s i).2 ∧ i + (Utf8.decode s i).2 ≤ s.size ∧ ∀ j (hj : j < s.size), i ≤ j → j < i + (Utf8.decode s i).2 → 128 ≤ (s[j]'hj).toNat)) := by
  by_cases h0 : (s[i]'h).toNat < 128
  · left
    refine ⟨h0, ?_⟩
    simp only [Utf8.decode, get_at s i h, h0, if_true]
  · right
    have hh := decode_high s i h (by omega)
    refine ⟨by omega, hh.1, hh.2, ?_⟩
    clear hh
    have key : ∀ k, (decide (i + k < s.size) && ((s.get! (i + k)).toNat / 64 == 2)) = true → i + k < s.size ∧ ∀ hj : i + k < s.size, 128 ≤ (s[i + k]'hj).toNat := fun k hk => by
      simp at hk
      refine ⟨hk.1, fun hj => ?_⟩
      have := hk.2
      rw [get_is s (i + k) hj] at this
      omega
    have one : i + 1 ≤ s.size ∧ ∀ j (hj : j < s.size), i ≤ j → j < i + 1 → 128 ≤ (s[j]'hj).toNat := ⟨by omega, fun j hj a b => by
      obtain rfl : j = i := by omega
      omega⟩
    simp only [Utf8.decode, get_at s i h, h0, if_false]
    split
    · rename_i hc
      simp only [Bool.and_eq_true] at hc
      have k1 := key 1 (by simpa using hc.2)
      split
      · refine ⟨by omega, fun j hj a b => ?_⟩
        rcases (show j = i ∨ j = i + 1 by simp only [] at b; omega) with rfl | rfl
        · omega
        · exact k1.2 hj
      · exact one
    split
    · rename_i hc
      simp only [Bool.and_eq_true] at hc
      have k1 := key 1 (by simpa using hc.1.2)
      have k2 := key 2 (by simpa using hc.2)
      split
      · refine ⟨by omega, fun j hj a b => ?_⟩
        rcases (show j = i ∨ j = i + 1 ∨ j = i + 2 by simp only [] at b; omega) with rfl | rfl | rfl
        · omega
        · exact k1.2 hj
        · exact k2.2 hj
      · exact one
    split
    · rename_i hc
      simp only [Bool.and_eq_true] at hc
      have k1 := key 1 (by simpa using hc.1.1.2)
      have k2 := key 2 (by simpa using hc.1.2)
      have k3 := key 3 (by simpa using hc.2)
      split
      · refine ⟨by omega, fun j hj a b => ?_⟩
        rcases (show j = i ∨ j = i + 1 ∨ j = i + 2 ∨ j = i + 3 by simp only [] at b; omega) with rfl | rfl | rfl | rfl
        · omega
        · exact k1.2 hj
        · exact k2.2 hj
        · exact k3.2 hj
      · exact one
    · exact one

theorem bytes_at (s : ByteArray) (j : Nat) (h : j < s.size) (h' : j < (bytesOf s).length) : (bytesOf s)[j] = ((s[j]'h).toNat : Int) := by
  simp [bytesOf]
  rfl

theorem isSp_high {x : Int} (h : 128 ≤ x) : isSp x = false := by
  simp [isSp]
  omega

/-- The kind at a place. -/
def kind (s : ByteArray) (j : Nat) : Bool := isSp ((bytesOf s).getD j 0)

theorem kind_at (s : ByteArray) (j : Nat) (h : j < s.size) : kind s j = isSp ((s[j]'h).toNat : Int) := by
  unfold kind
  rw [List.getD_eq_getElem?_getD, List.getElem?_eq_getElem (by rw [bytes_len]; exact h), Option.getD_some, bytes_at s j h]

/-- What a range tells of kinds: that of the rune is that of each of its bytes. -/
theorem decode_kind (s : ByteArray) (i : Nat) (h : i < s.size) :
    1 ≤ (Utf8.decode s i).2 ∧ i + (Utf8.decode s i).2 ≤ s.size ∧ ∀ j, i ≤ j → j < i + (Utf8.decode s i).2 → kind s j = isSp ((Utf8.decode s i).1 : Int) := by
  rcases decode_parts s i h with ⟨h1, h2⟩ | ⟨h1, h2, h3, h4, h5⟩
  · rw [h2]
    refine ⟨Nat.le_refl _, h, fun j a b => ?_⟩
    obtain rfl : j = i := by simp only [] at b; omega
    exact kind_at s j h
  · refine ⟨h3, h4, fun j a b => ?_⟩
    rw [kind_at s j (by omega), isSp_high (by have := h5 j (by omega) a b; omega), isSp_high (by omega)]

theorem spaces_iff (s : ByteArray) : spaces s = true ↔ ∀ j, j < s.size → kind s j = true := by
  unfold spaces
  rw [List.all_eq_true]
  constructor
  · intro h j hj
    rw [kind_at s j hj]
    exact h _ (by rw [← bytes_at s j hj (by rw [bytes_len]; exact hj)]; exact List.getElem_mem _)
  · intro h x hx
    obtain ⟨j, hj, rfl⟩ := List.getElem_of_mem hx
    rw [bytes_len] at hj
    rw [bytes_at s j hj, ← kind_at]
    exact h j hj

theorem spaces_no (s : ByteArray) (j : Nat) (hj : j < s.size) (h : kind s j = false) : spaces s = false := by
  cases hs : spaces s with
  | false => rfl
  | true =>
    rw [(spaces_iff s).1 hs j hj] at h
    cases h


end Go.Proofs.Ythdlmglnieomeaa
