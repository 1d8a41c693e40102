/-
  Texts laid together; what stands at a place. No program.
-/
import Derived.Test.YthdlmglnieomeaaStand
namespace Go.Proofs.Ythdlmglnieomeaa
open Go.RowKit Utf
set_option linter.unusedVariables false

theorem st_le {s : ByteArray} {p : Nat} {x : ByteArray} (h : st s p x = true) : p + x.size ≤ s.size := by
  unfold st at h
  exact (of_decide_eq_true h).1

theorem st_at {s : ByteArray} {p : Nat} {x : ByteArray} (h : st s p x = true) (j : Nat) (hj : j < x.size) : bt s (p + j) = bt x j := by
  unfold st at h
  exact (of_decide_eq_true h).2 j hj

theorem fo_le {s : ByteArray} {p : Nat} {x : ByteArray} (h : fo s p x = true) : p + x.size ≤ s.size := by
  unfold fo at h
  exact (of_decide_eq_true h).1

theorem cat_assoc (a b c : ByteArray) : a ++ b ++ c = a ++ (b ++ c) := ByteArray.append_assoc

theorem cat_nil (a : ByteArray) : a ++ ⟨#[]⟩ = a := ByteArray.append_empty

theorem cat_size (a b : ByteArray) : (a ++ b).size = a.size + b.size := ByteArray.size_append

theorem bt_left (a b : ByteArray) {j : Nat} (h : j < a.size) : bt (a ++ b) j = bt a j := by
  unfold bt
  rw [List.getD_eq_getElem?_getD, List.getD_eq_getElem?_getD, show bytesOf (a ++ b) = bytesOf a ++ bytesOf b by simp [bytesOf], List.getElem?_append_left (by rw [bytes_len]; exact h)]

theorem bt_right (a b : ByteArray) (j : Nat) : bt (a ++ b) (a.size + j) = bt b j := by
  unfold bt
  rw [List.getD_eq_getElem?_getD, List.getD_eq_getElem?_getD, show bytesOf (a ++ b) = bytesOf a ++ bytesOf b by simp [bytesOf], List.getElem?_append_right (by rw [bytes_len]; omega), bytes_len, Nat.add_sub_cancel_left]

theorem one_size {s : ByteArray} {k : Nat} (h : k < s.size) : (s.extract k (k + 1)).size = 1 := by rw [ByteArray.size_extract]; omega

theorem one_bt {s : ByteArray} {k : Nat} (h : k < s.size) : bt (s.extract k (k + 1)) 0 = bt s k := by rw [bt_cut s k (k + 1) 0 (by omega) (by omega), Nat.add_zero]

/-- One byte there. -/
theorem st_byte (s : ByteArray) (p : Nat) (c : UInt8) : st s p ⟨#[c]⟩ = decide (p < s.size ∧ bt s p = (c.toNat : Int)) := by
  have hb : bt ⟨#[c]⟩ 0 = (c.toNat : Int) := bt_at ⟨#[c]⟩ 0 (Nat.zero_lt_one)
  rw [Bool.eq_iff_iff, decide_eq_true_eq]
  constructor
  · intro h
    exact ⟨st_le h, by rw [← hb]; exact st_at h 0 (Nat.zero_lt_one)⟩
  · rintro ⟨h1, h2⟩
    refine st_true h1 fun j hj => ?_
    have hj1 : j < 1 := hj
    obtain rfl : j = 0 := by omega
    rw [hb]
    exact h2

theorem cut_le (s : ByteArray) (p q : Nat) : (s.extract p q).size ≤ s.size := by rw [ByteArray.size_extract]; omega

theorem bt_out {s : ByteArray} {p : Nat} (h : s.size ≤ p) : bt s p = 0 := by
  unfold bt
  rw [List.getD_eq_getElem?_getD, List.getElem?_eq_none (by rw [bytes_len]; exact h)]
  rfl

theorem skip_is (s : ByteArray) {p : Nat} (h : p ≤ s.size) : Fs (fun i => !isSp (bt s i)) p s.size (skipF s p) := fs_is _ h

theorem until_is (s set : ByteArray) {p : Nat} (h : p ≤ s.size) : Fs (fun i => inS set (bt s i)) p s.size (untilF s set p) := fs_is _ h

end Go.Proofs.Ythdlmglnieomeaa
