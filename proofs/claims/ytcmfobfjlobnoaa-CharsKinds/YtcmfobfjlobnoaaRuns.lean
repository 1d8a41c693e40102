/-
  A text in runs of one kind, by itself: how they are found from left to right, and what follows; no program is spoken of here.
-/
import Derived.Test.YtcmfobfjlobnoaaSpaces
namespace Go.Proofs.Ytcmfobfjlobnoaa
open Go.RowKit Utf

/-- The runs that ended at a place up to k, and where the one at k begins. -/
def st (s : ByteArray) : Nat → List ByteArray × Nat
  | 0 => ([], 0)
  | k + 1 => if kind s (k + 1) != kind s k then ((st s k).1 ++ [s.extract (st s k).2 (k + 1)], k + 1) else st s k

/-- The runs of a text. -/
def split (s : ByteArray) : List ByteArray := if s.size = 0 then [] else (st s (s.size - 1)).1 ++ [s.extract (st s (s.size - 1)).2 s.size]

theorem st_cut {s : ByteArray} {k : Nat} (h : (kind s (k + 1) != kind s k) = true) : st s (k + 1) = ((st s k).1 ++ [s.extract (st s k).2 (k + 1)], k + 1) := by
  rw [st, if_pos h]
theorem st_on {s : ByteArray} {k : Nat} (h : (kind s (k + 1) != kind s k) = false) : st s (k + 1) = st s k := by
  rw [st, if_neg (by simp [h])]

theorem st_le (s : ByteArray) : ∀ k, (st s k).2 ≤ k ∧ (st s k).1.length ≤ k
  | 0 => ⟨Nat.le_refl _, Nat.le_refl _⟩
  | k + 1 => by
    have := st_le s k
    rw [st]
    split
    · simp
      omega
    · omega

/-- Where one kind goes on nothing ends. -/
theorem st_flat (s : ByteArray) (a : Nat) (c : Bool) : ∀ m, (∀ j, a ≤ j → j ≤ a + m → kind s j = c) → st s (a + m) = st s a
  | 0, _ => rfl
  | m + 1, h => by
    have h1 := st_flat s a c m (fun j x y => h j x (by omega))
    rw [← h1, show a + (m + 1) = (a + m) + 1 by omega]
    refine st_on ?_
    rw [h (a + m + 1) (by omega) (by omega), h (a + m) (by omega) (by omega)]
    simp

/-- From its beginning on the run at k is of one kind. -/
theorem st_kind (s : ByteArray) : ∀ k j, (st s k).2 ≤ j → j ≤ k → kind s j = kind s k
  | 0, j, _, h => by
    obtain rfl : j = 0 := by omega
    rfl
  | k + 1, j, h1, h2 => by
    by_cases hc : (kind s (k + 1) != kind s k) = true
    · rw [st_cut hc] at h1
      obtain rfl : j = k + 1 := by simp only [] at h1; omega
      rfl
    · have hc' : (kind s (k + 1) != kind s k) = false := by simpa using hc
      rw [st_on hc'] at h1
      by_cases he : j = k + 1
      · rw [he]
      · have := st_kind s k j h1 (by omega)
        rw [this]
        simp at hc
        exact hc.symm

theorem kind_extract (s : ByteArray) (a b j : Nat) (hb : b ≤ s.size) (hj : a + j < b) : kind (s.extract a b) j = kind s (a + j) := by
  have h1 : j < (s.extract a b).size := by simp; omega
  rw [kind_at _ j h1, kind_at s (a + j) (by omega)]
  congr 3
  exact ByteArray.getElem_extract h1

/-- A piece of one kind: is it of Spaces? -/
theorem spaces_piece (s : ByteArray) (a b : Nat) (hab : a < b) (hb : b ≤ s.size) (c : Bool) (h : ∀ j, a ≤ j → j < b → kind s j = c) : spaces (s.extract a b) = c ∧ ∀ j, j < (s.extract a b).size → kind (s.extract a b) j = c := by
  have hk : ∀ j, j < (s.extract a b).size → kind (s.extract a b) j = c := fun j hj => by
    simp at hj
    rw [kind_extract s a b j hb (by omega)]
    exact h _ (by omega) (by omega)
  refine ⟨?_, hk⟩
  cases c with
  | true => exact (spaces_iff _).2 hk
  | false => exact spaces_no _ 0 (by simp; omega) (hk 0 (by simp; omega))

/-- Runs as they should be: none empty, each of one kind, none as the one ahead. -/
structure Fine (L : List ByteArray) : Prop where
  one : ∀ i (h : i < L.length), L[i].size ≠ 0 ∧ ∀ j, j < L[i].size → kind L[i] j = spaces L[i]
  two : ∀ i (h : i + 1 < L.length), spaces L[i + 1] ≠ spaces L[i]

theorem Fine.nil : Fine [] := ⟨fun i h => by simp at h, fun i h => by simp at h⟩

theorem Fine.snoc {L : List ByteArray} (h : Fine L) (p : ByteArray) (h0 : p.size ≠ 0) (h1 : ∀ j, j < p.size → kind p j = spaces p) (h2 : ∀ q, L.getLast? = some q → spaces p ≠ spaces q) : Fine (L ++ [p]) := by
  refine ⟨fun i hi => ?_, fun i hi => ?_⟩
  · by_cases he : i < L.length
    · rw [List.getElem_append_left he]
      exact h.one i he
    · have : i = L.length := by simp at hi; omega
      subst this
      rw [List.getElem_append_right (Nat.le_refl _)]
      simp only [Nat.sub_self, List.getElem_singleton]
      exact ⟨h0, h1⟩
  · simp only [List.length_append, List.length_singleton] at hi
    by_cases he : i + 1 < L.length
    · rw [List.getElem_append_left he, List.getElem_append_left (by omega)]
      exact h.two i he
    · have hL : L.length = i + 1 := by omega
      rw [List.getElem_append_left (show i < L.length by omega), List.getElem_append_right (by omega)]
      simp only [hL, Nat.sub_self, List.getElem_singleton]
      refine h2 _ ?_
      rw [List.getLast?_eq_getElem?, show L.length - 1 = i by omega, List.getElem?_eq_getElem]

/-- All that is in some texts, one behind the other. -/
def joined (L : List ByteArray) : ByteArray := L.foldl (· ++ ·) ⟨#[]⟩
theorem joined_snoc (L : List ByteArray) (p : ByteArray) : joined (L ++ [p]) = joined L ++ p := by simp [joined]

theorem extract_join (s : ByteArray) (a b : Nat) (h : a ≤ b) : s.extract 0 a ++ s.extract a b = s.extract 0 b := by
  rw [ByteArray.extract_append_extract]
  simp [Nat.min_eq_left (Nat.zero_le _), Nat.max_eq_right h]

theorem st_fine (s : ByteArray) : ∀ k, k < s.size → Fine (st s k).1 ∧ joined (st s k).1 = s.extract 0 (st s k).2 ∧ ∀ p, (st s k).1.getLast? = some p → spaces p ≠ kind s k
  | 0, _ => ⟨Fine.nil, by simp [st, joined]; rfl, fun p hl => by simp [st] at hl⟩
  | k + 1, hk => by
    obtain ⟨h1, h2, h3⟩ := st_fine s k (by omega)
    have hle := (st_le s k).1
    by_cases hc : (kind s (k + 1) != kind s k) = true
    · have hp := spaces_piece s (st s k).2 (k + 1) (by omega) (by omega) (kind s k) (fun j a b => st_kind s k j a (by omega))
      rw [st_cut hc]
      refine ⟨h1.snoc _ (by simp; omega) (fun j hj => ?_) (fun q hl => ?_), ?_, fun q hl => ?_⟩
      · rw [hp.1]
        exact hp.2 j hj
      · rw [hp.1]
        exact fun e => h3 q hl e.symm
      · rw [joined_snoc, h2]
        exact extract_join s _ _ (by omega)
      · simp at hl
        subst hl
        rw [hp.1]
        intro e
        simp [e] at hc
    · have hc' : (kind s (k + 1) != kind s k) = false := by simpa using hc
      have he : kind s (k + 1) = kind s k := by simpa using hc
      rw [st_on hc', he]
      exact ⟨h1, h2, h3⟩

theorem split_fine (s : ByteArray) : Fine (split s) ∧ joined (split s) = s := by
  unfold split
  split
  · rename_i h0
    refine ⟨Fine.nil, ?_⟩
    apply ByteArray.ext
    exact (Array.eq_empty_of_size_eq_zero h0).symm
  · rename_i h0
    obtain ⟨h1, h2, h3⟩ := st_fine s (s.size - 1) (by omega)
    have hle := (st_le s (s.size - 1)).1
    have hp := spaces_piece s (st s (s.size - 1)).2 s.size (by omega) (Nat.le_refl _) (kind s (s.size - 1)) (fun j a b => st_kind s (s.size - 1) j a (by omega))
    refine ⟨h1.snoc _ (by simp; omega) (fun j hj => ?_) (fun q hl => ?_), ?_⟩
    · rw [hp.1]
      exact hp.2 j hj
    · rw [hp.1]
      exact fun e => h3 q hl e.symm
    · rw [joined_snoc, h2, extract_join s _ _ (by omega)]
      simp

theorem split_len (s : ByteArray) : (split s).length ≤ s.size := by
  unfold split
  split
  · simp
  · have := (st_le s (s.size - 1)).2
    simp
    omega

/-- Runs in the making: at pos, L are those that ended, from F on the next one goes, of kind B. -/
def Run (s : ByteArray) (pos F : Nat) (B : Bool) (L : List ByteArray) : Prop :=
  pos ≤ s.size ∧ ((pos = 0 ∧ F = 0 ∧ B = false ∧ L = []) ∨ (0 < pos ∧ F < pos ∧ st s (pos - 1) = (L, F) ∧ kind s (pos - 1) = B))

theorem Run.start (s : ByteArray) : Run s 0 0 false [] := ⟨Nat.zero_le _, Or.inl ⟨rfl, rfl, rfl, rfl⟩⟩

theorem Run.len {s : ByteArray} {pos F : Nat} {B : Bool} {L : List ByteArray} (h : Run s pos F B L) : L.length ≤ pos ∧ F ≤ pos := by
  rcases h with ⟨_, ⟨h1, h2, _, h3⟩ | ⟨h1, h2, h3, _⟩⟩
  · simp [h2, h3]
  · have := st_le s (pos - 1)
    rw [h3] at this
    simp only [] at this
    omega

/-- Nothing ends at pos. -/
theorem Run.on {s : ByteArray} {pos F sz : Nat} {B x : Bool} {L : List ByteArray} (h : Run s pos F B L) (d1 : 1 ≤ sz) (d2 : pos + sz ≤ s.size) (d3 : ∀ j, pos ≤ j → j < pos + sz → kind s j = x) (hx : pos = 0 ∨ x = B) : Run s (pos + sz) F x L := by
  obtain ⟨m, rfl⟩ : ∃ m, sz = m + 1 := ⟨sz - 1, by omega⟩
  have hf := st_flat s pos x m (fun j a b => d3 j a (by omega))
  have hk := d3 (pos + m) (by omega) (by omega)
  rcases h with ⟨_, ⟨rfl, rfl, rfl, rfl⟩ | ⟨h1, h2, h3, h4⟩⟩
  · refine ⟨d2, Or.inr ⟨by omega, by omega, ?_, ?_⟩⟩
    · rw [show 0 + (m + 1) - 1 = 0 + m by omega, hf]
      rfl
    · rw [show 0 + (m + 1) - 1 = 0 + m by omega, hk]
  · obtain ⟨q, rfl⟩ : ∃ q, pos = q + 1 := ⟨pos - 1, by omega⟩
    simp only [Nat.add_sub_cancel] at h3 h4
    have hx' : x = B := by
      rcases hx with h | h
      · omega
      · exact h
    refine ⟨d2, Or.inr ⟨by omega, by omega, ?_, ?_⟩⟩
    · rw [show q + 1 + (m + 1) - 1 = q + 1 + m by omega, hf, st_on, h3]
      rw [d3 (q + 1) (by omega) (by omega), h4, hx']
      simp
    · rw [show q + 1 + (m + 1) - 1 = q + 1 + m by omega, hk]

/-- A run ends at pos. -/
theorem Run.cut {s : ByteArray} {pos F sz : Nat} {B x : Bool} {L : List ByteArray} (h : Run s pos F B L) (d1 : 1 ≤ sz) (d2 : pos + sz ≤ s.size) (d3 : ∀ j, pos ≤ j → j < pos + sz → kind s j = x) (h0 : 0 < pos) (hx : x ≠ B) : Run s (pos + sz) pos x (L ++ [s.extract F pos]) := by
  obtain ⟨m, rfl⟩ : ∃ m, sz = m + 1 := ⟨sz - 1, by omega⟩
  have hf := st_flat s pos x m (fun j a b => d3 j a (by omega))
  have hk := d3 (pos + m) (by omega) (by omega)
  rcases h with ⟨_, ⟨rfl, rfl, rfl, rfl⟩ | ⟨h1, h2, h3, h4⟩⟩
  · omega
  · obtain ⟨q, rfl⟩ : ∃ q, pos = q + 1 := ⟨pos - 1, by omega⟩
    simp only [Nat.add_sub_cancel] at h3 h4
    refine ⟨d2, Or.inr ⟨by omega, by omega, ?_, ?_⟩⟩
    · rw [show q + 1 + (m + 1) - 1 = q + 1 + m by omega, hf, st_cut, h3]
      rw [d3 (q + 1) (by omega) (by omega), h4]
      simpa using hx
    · rw [show q + 1 + (m + 1) - 1 = q + 1 + m by omega, hk]

/-- At the end. -/
theorem Run.done {s : ByteArray} {F : Nat} {B : Bool} {L : List ByteArray} (h : Run s s.size F B L) : (s.size = 0 ∧ F = 0 ∧ split s = L) ∨ (F < s.size ∧ split s = L ++ [s.extract F s.size]) := by
  rcases h with ⟨_, ⟨h1, h2, h3, h4⟩ | ⟨h1, h2, h3, h4⟩⟩
  · left
    refine ⟨h1, h2, ?_⟩
    rw [split, if_pos h1, h4]
  · right
    refine ⟨h2, ?_⟩
    rw [split, if_neg (by omega), h3]

end Go.Proofs.Ytcmfobfjlobnoaa
