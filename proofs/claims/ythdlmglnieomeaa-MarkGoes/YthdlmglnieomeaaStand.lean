/-
  Places of a text, and what stands there: no program.
-/
import Derived.Test.YthdlmglnieomeaaLow
import Derived.Test.YthdlmglnieomeaaKinds
namespace Go.Proofs.Ythdlmglnieomeaa
open Go.RowKit Utf

/-- The byte at a place; 0 behind the end. -/
def bt (s : ByteArray) (j : Nat) : Int := (bytesOf s).getD j 0

theorem bt_at (s : ByteArray) (j : Nat) (h : j < s.size) : bt s j = ((s[j]'h).toNat : Int) := by
  have h1 : j < (bytesOf s).length := by rw [bytes_len]; exact h
  unfold bt
  rw [List.getD_eq_getElem?_getD, List.getElem?_eq_getElem h1, Option.getD_some]
  simp [bytesOf]
  rfl

theorem bt_range (s : ByteArray) (j : Nat) : 0 ≤ bt s j ∧ bt s j < 256 := by
  by_cases h : j < s.size
  · rw [bt_at s j h]
    have := (s[j]'h).toNat_lt
    omega
  · unfold bt
    rw [List.getD_eq_getElem?_getD, List.getElem?_eq_none (by rw [bytes_len]; omega)]
    simp

theorem index_at (s : ByteArray) (i : Int) (j : Nat) (hi : i = j) (h : j < s.size) (W : World) : (Instr.index 9 (.string s) (.int .i64 i)).run Try.prog W = .ok (.int .u8 (bt s j)) W := by
  subst hi
  rw [run_index_string W 9 s .i64 j Try.underlying9, bt_at s j h]
  simp [h]

/-- The same bytes, the same text. -/
theorem bt_ext {s t : ByteArray} (h : s.size = t.size) (hb : ∀ j, j < s.size → bt s j = bt t j) : s = t := by
  refine bytes_inj (List.ext_getElem (by rw [bytes_len, bytes_len, h]) fun j h1 h2 => ?_)
  have := hb j (by rw [bytes_len] at h1; exact h1)
  unfold bt at this
  rw [List.getD_eq_getElem?_getD, List.getD_eq_getElem?_getD, List.getElem?_eq_getElem h1, List.getElem?_eq_getElem h2] at this
  exact this

theorem bt_cut (s : ByteArray) (p q j : Nat) (h : p + j < q) (hq : q ≤ s.size) : bt (s.extract p q) j = bt s (p + j) := by
  have h1 : j < (s.extract p q).size := by simp; omega
  rw [bt_at _ j h1, bt_at s (p + j) (by omega)]
  simp [ByteArray.getElem_extract]

theorem bt_low (s : ByteArray) (j : Nat) : bt (lower s) j = low (bt s j) := by
  unfold bt
  rw [lower_bytes, List.getD_eq_getElem?_getD, List.getD_eq_getElem?_getD, List.getElem?_map]
  cases (bytesOf s)[j]? with
  | none => rfl
  | some x => rfl

/-- The place of a text of n bytes that a number means. -/
def pl (n : Nat) (p : Int) : Nat := if p < 0 then 0 else if (n : Int) < p then n else p.toNat
theorem pl_le (n : Nat) (p : Int) : pl n p ≤ n := by
  unfold pl
  split
  · omega
  · split <;> omega
theorem pl_of {n p : Nat} (h : p ≤ n) : pl n (p : Int) = p := by
  unfold pl
  split
  · omega
  · split <;> omega
theorem pl_lo {n : Nat} {p : Int} (h : p < 0) : pl n p = 0 := by unfold pl; rw [if_pos h]
theorem pl_hi {n : Nat} {p : Int} (h : (n : Int) < p) : pl n p = n := by unfold pl; rw [if_neg (by omega), if_pos h]
theorem pl_in {n : Nat} {p : Int} (h : ¬ p < 0) (h2 : ¬ (n : Int) < p) : (pl n p : Int) = p := by unfold pl; rw [if_neg h, if_neg h2]; omega

/-- Does sub stand at p? -/
def st (s : ByteArray) (p : Nat) (sub : ByteArray) : Bool := decide (p + sub.size ≤ s.size ∧ ∀ j, j < sub.size → bt s (p + j) = bt sub j)
/-- So, where capitals are as small letters. -/
def fo (s : ByteArray) (p : Nat) (sub : ByteArray) : Bool := decide (p + sub.size ≤ s.size ∧ ∀ j, j < sub.size → low (bt s (p + j)) = low (bt sub j))

theorem st_true {s : ByteArray} {p : Nat} {sub : ByteArray} (h1 : p + sub.size ≤ s.size) (h2 : ∀ j, j < sub.size → bt s (p + j) = bt sub j) : st s p sub = true := decide_eq_true ⟨h1, h2⟩
theorem st_long {s : ByteArray} {p : Nat} {sub : ByteArray} (h1 : ¬ p + sub.size ≤ s.size) : st s p sub = false := decide_eq_false (fun h => h1 h.1)
theorem st_not {s : ByteArray} {p : Nat} {sub : ByteArray} (j : Nat) (hj : j < sub.size) (h2 : ¬ bt s (p + j) = bt sub j) : st s p sub = false := decide_eq_false (fun h => h2 (h.2 j hj))
theorem fo_true {s : ByteArray} {p : Nat} {sub : ByteArray} (h1 : p + sub.size ≤ s.size) (h2 : ∀ j, j < sub.size → low (bt s (p + j)) = low (bt sub j)) : fo s p sub = true := decide_eq_true ⟨h1, h2⟩
theorem fo_long {s : ByteArray} {p : Nat} {sub : ByteArray} (h1 : ¬ p + sub.size ≤ s.size) : fo s p sub = false := decide_eq_false (fun h => h1 h.1)
theorem fo_not {s : ByteArray} {p : Nat} {sub : ByteArray} (j : Nat) (hj : j < sub.size) (h2 : ¬ low (bt s (p + j)) = low (bt sub j)) : fo s p sub = false := decide_eq_false (fun h => h2 (h.2 j hj))

theorem st_lower (s : ByteArray) (p : Nat) (sub : ByteArray) : st (lower s) p (lower sub) = fo s p sub := by
  unfold st fo
  simp only [lower_size, bt_low]

theorem st_cut {s : ByteArray} {p : Nat} {sub : ByteArray} (h : p + sub.size ≤ s.size) : st s p sub = decide (s.extract p (p + sub.size) = sub) := by
  have hz : (s.extract p (p + sub.size)).size = sub.size := by simp; omega
  by_cases h1 : s.extract p (p + sub.size) = sub
  · rw [decide_eq_true h1]
    refine st_true h fun j hj => ?_
    rw [← bt_cut s p (p + sub.size) j (by omega) h, h1]
  · rw [decide_eq_false h1]
    refine decide_eq_false fun h2 => h1 (bt_ext hz fun j hj => ?_)
    rw [hz] at hj
    rw [bt_cut s p (p + sub.size) j (by omega) h]
    exact h2.2 j hj

/-- r is the first place from p on where f holds; n, if it does nowhere. -/
structure Fs (f : Nat → Bool) (p n r : Nat) : Prop where
  lo : p ≤ r
  hi : r ≤ n
  no : ∀ j, p ≤ j → j < r → f j = false
  at' : r < n → f r = true

def seek (f : Nat → Bool) : Nat → Nat → Nat
  | 0, p => p
  | k + 1, p => if f p then p else seek f k (p + 1)
/-- The first place from p on where f holds; n, if it does nowhere. -/
def fs (f : Nat → Bool) (p n : Nat) : Nat := seek f (n - p) p

theorem seek_is (f : Nat → Bool) : ∀ k p, Fs f p (p + k) (seek f k p)
  | 0, p => ⟨Nat.le_refl _, Nat.le_refl _, fun j h1 h2 => by simp only [seek] at h2; omega, fun h => by simp only [seek] at h; omega⟩
  | k + 1, p => by
    unfold seek
    cases hf : f p with
    | true =>
      simp only [if_true]
      exact ⟨Nat.le_refl _, by omega, fun j h1 h2 => by omega, fun _ => hf⟩
    | false =>
      simp only [Bool.false_eq_true, if_false]
      obtain ⟨h1, h2, h3, h4⟩ := seek_is f k (p + 1)
      refine ⟨by omega, by omega, fun j g1 g2 => ?_, fun h => h4 (by omega)⟩
      by_cases hj : j = p
      · rw [hj]; exact hf
      · exact h3 j (by omega) g2

theorem fs_is (f : Nat → Bool) {p n : Nat} (h : p ≤ n) : Fs f p n (fs f p n) := by
  have := seek_is f (n - p) p
  rw [show p + (n - p) = n by omega] at this
  exact this

theorem Fs.eq {f : Nat → Bool} {p n r r' : Nat} (h : Fs f p n r) (h' : Fs f p n r') : r = r' := by
  rcases Nat.lt_trichotomy r r' with g | g | g
  · have := h'.no r h.lo g
    rw [h.at' (by have := h'.hi; omega)] at this
    cases this
  · exact g
  · have := h.no r' h'.lo g
    rw [h'.at' (by have := h.hi; omega)] at this
    cases this

theorem fs_eq {f : Nat → Bool} {p n r : Nat} (h : Fs f p n r) : fs f p n = r := (fs_is f (Nat.le_trans h.lo h.hi)).eq h

/-- Is x one of these bytes? -/
def inS (set : ByteArray) (x : Int) : Bool := decide (∃ j, j < set.size ∧ bt set j = x)
/-- Does a name end there? -/
def enN (x : Int) : Bool := isSp x || (x == 47) || (x == 62)

def findF (s sub : ByteArray) (p : Nat) : Nat := fs (fun i => st s i sub) p s.size
def untilF (s set : ByteArray) (p : Nat) : Nat := fs (fun i => inS set (bt s i)) p s.size
def skipF (s : ByteArray) (p : Nat) : Nat := fs (fun i => !isSp (bt s i)) p s.size
def nameF (s : ByteArray) (p : Nat) : Nat := fs (fun i => enN (bt s i)) p s.size

theorem fs_congr {f g : Nat → Bool} (h : ∀ i, f i = g i) (p n : Nat) : fs f p n = fs g p n := by rw [show f = g from funext h]

/-- The signs that end a name, as a text. -/
def ENDS : ByteArray := { data := #[9, 10, 12, 13, 32, 47, 62] }
theorem ends_in (x : Int) : inS ENDS x = enN x := by
  rw [Bool.eq_iff_iff]
  unfold inS enN isSp
  simp only [decide_eq_true_eq, Bool.or_eq_true, beq_iff_eq]
  constructor
  · rintro ⟨j, hj, rfl⟩
    have h7 : j < 7 := hj
    rcases (show j = 0 ∨ j = 1 ∨ j = 2 ∨ j = 3 ∨ j = 4 ∨ j = 5 ∨ j = 6 by omega) with rfl | rfl | rfl | rfl | rfl | rfl | rfl
    all_goals decide
  · rintro (((rfl | rfl | rfl | rfl | rfl) | rfl) | rfl)
    · exact ⟨0, by decide, by decide⟩
    · exact ⟨1, by decide, by decide⟩
    · exact ⟨2, by decide, by decide⟩
    · exact ⟨3, by decide, by decide⟩
    · exact ⟨4, by decide, by decide⟩
    · exact ⟨5, by decide, by decide⟩
    · exact ⟨6, by decide, by decide⟩

theorem name_until (s : ByteArray) (p : Nat) : untilF s ENDS p = nameF s p := fs_congr (fun _ => ends_in _) _ _

end Go.Proofs.Ythdlmglnieomeaa
