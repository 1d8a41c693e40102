/-
  What a token is told as begins with its Kind's sign. No program.
-/
import Derived.Test.YtgeebmlincddkaaFew
namespace Go.Proofs.Ytgeebmlincddkaa

/-- It begins with the byte c. -/
def starts (c : UInt8) (s : ByteArray) : Prop := ∃ r : ByteArray, s = ⟨#[c]⟩ ++ r

theorem starts_cat {c : UInt8} {s : ByteArray} (h : starts c s) (t : ByteArray) : starts c (s ++ t) := by
  obtain ⟨r, rfl⟩ := h
  exact ⟨r ++ t, cat_assoc _ _ _⟩

theorem starts_fold {c : UInt8} : ∀ (l : List Att) (s : ByteArray), starts c s → starts c (l.foldl grow s)
  | [], _, h => h
  | a :: l, s, h => starts_fold l (grow s a) (starts_cat h _)

theorem starts_size {c : UInt8} {s : ByteArray} (h : starts c s) : 1 ≤ s.size := by
  obtain ⟨r, rfl⟩ := h
  rw [cat_size]
  show 1 ≤ 1 + r.size
  omega

theorem starts_first {c : UInt8} {s : ByteArray} (h : starts c s) : s.extract 0 1 = ⟨#[c]⟩ := by
  obtain ⟨r, rfl⟩ := h
  apply ByteArray.ext
  simp

theorem starts_ne {c : UInt8} {s : ByteArray} (h : starts c s) : s.toList.isEmpty = false := by
  rw [ByteArray.toList_eq, List.isEmpty_eq_false_iff]
  intro e
  have := starts_size h
  have h2 : s.data.toList.length = s.size := by rw [Array.length_toList]; rfl
  rw [e] at h2
  simp at h2
  omega

theorem told1 (t : Tok) (h : t.1 = 1) : starts 33 (told t) := by unfold told; rw [if_pos h]; exact ⟨_, rfl⟩
theorem told2 (t : Tok) (h : t.1 = 2) : starts 60 (told t) := by
  unfold told
  rw [if_neg (by omega), if_pos h]
  unfold startT
  have h1 : starts 60 (t.2.2.1.foldl grow (⟨#[60]⟩ ++ t.2.1)) := starts_fold _ _ ⟨_, rfl⟩
  split
  · exact starts_cat h1 _
  · exact h1
theorem told3 (t : Tok) (h : t.1 = 3) : starts 47 (told t) := by unfold told; rw [if_neg (by omega), if_neg (by omega), if_pos h]; exact ⟨_, rfl⟩
theorem told4 (t : Tok) (h : t.1 = 4) : starts 34 (told t) := by unfold told; rw [if_neg (by omega), if_neg (by omega), if_neg (by omega), if_pos h]; exact ⟨_, rfl⟩
theorem told5 (t : Tok) (h : t.1 = 5) : starts 45 (told t) := by unfold told; rw [if_neg (by omega), if_neg (by omega), if_neg (by omega), if_neg (by omega), if_pos h]; exact ⟨_, rfl⟩
theorem cat_nil (s : ByteArray) : s ++ (⟨#[]⟩ : ByteArray) = s := by
  apply ByteArray.ext
  simp
theorem told6 (t : Tok) (h : t.1 = 6) : starts 46 (told t) := by unfold told; rw [if_neg (by omega), if_neg (by omega), if_neg (by omega), if_neg (by omega), if_neg (by omega), if_pos h]; exact ⟨⟨#[]⟩, (cat_nil _).symm⟩
theorem told0 (t : Tok) (h : t.1 < 1 ∨ 6 < t.1) : starts 63 (told t) := by unfold told; rw [if_neg (by omega), if_neg (by omega), if_neg (by omega), if_neg (by omega), if_neg (by omega), if_neg (by omega)]; exact ⟨⟨#[]⟩, (cat_nil _).symm⟩

theorem cat_cancel {a x y : ByteArray} (h : a ++ x = a ++ y) : x = y := by
  have h1 := congrArg (fun s : ByteArray => s.data.toList) h
  simp only [ByteArray.data_append, Array.toList_append] at h1
  exact ByteArray.ext (Array.ext' (List.append_cancel_left h1))

/-- Of one Kind that has a name alone: told alike just if the names are. -/
theorem told_names {t u : Tok} (h : t.1 = u.1) (h2 : t.1 = 1 ∨ t.1 = 3) : (told t = told u ↔ t.2.1 = u.2.1) := by
  rcases h2 with h2 | h2
  · have e1 : told t = ⟨#[33]⟩ ++ t.2.1 := by unfold told; rw [if_pos h2]
    have e2 : told u = ⟨#[33]⟩ ++ u.2.1 := by unfold told; rw [if_pos (h ▸ h2)]
    rw [e1, e2]
    exact ⟨cat_cancel, fun e => by rw [e]⟩
  · have e1 : told t = ⟨#[47]⟩ ++ t.2.1 := by unfold told; rw [if_neg (by omega), if_neg (by omega), if_pos h2]
    have e2 : told u = ⟨#[47]⟩ ++ u.2.1 := by unfold told; rw [if_neg (by omega), if_neg (by omega), if_pos (h ▸ h2)]
    rw [e1, e2]
    exact ⟨cat_cancel, fun e => by rw [e]⟩

theorem told_eqs {t u : Tok} (h : t.1 = u.1) (h2 : t.1 = 1 ∨ t.1 = 3) : eqs (told t) (told u) = eqs t.2.1 u.2.1 := by
  rw [Bool.eq_iff_iff, eqs_iff, eqs_iff]
  exact told_names h h2

/-- What few tells is not too long. -/
theorem cutB_size (s : ByteArray) (m : Nat) : (cutB s m).size ≤ m := cut_size s m

theorem few_brief (t : Tok) : brief (few t).2.2.1 := by
  refine ⟨Nat.le_trans (short_len _) (by omega), fun a ha => ?_⟩
  unfold few short at ha
  obtain ⟨x, _, rfl⟩ := List.mem_map.1 ha
  have h1 := cutB_size x.1 20
  have h2 := cutB_size x.2 30
  exact ⟨by show (cutB x.1 20).size ≤ _; omega, by show (cutB x.2 30).size ≤ _; omega⟩

theorem few_name (t : Tok) : (few t).2.1.size ≤ 20 := cutB_size _ _
theorem few_text (t : Tok) : (few t).2.2.2.2.size ≤ 60 := cutB_size _ _

end Go.Proofs.Ytgeebmlincddkaa
