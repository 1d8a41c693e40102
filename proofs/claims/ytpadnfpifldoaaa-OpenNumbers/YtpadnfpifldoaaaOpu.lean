/-
  What scopes have to do with one another: no program.
-/
import Derived.Test.YtpadnfpifldoaaaOit
namespace Go.Proofs.Ytpadnfpifldoaaa
variable {α : Type}

theorem hasN_snoc (s : ByteArray) (l : List (Itm α)) (x : Itm α) : hasN s (l ++ [x]) = (hasN s l || isIn [s] x) := by
  unfold hasN
  rw [List.any_append, List.any_cons, List.any_nil, Bool.or_false]

theorem bnd_more (k : Int) (x : Itm α) (hk : k = 2 ∨ k = 3) (h : bnd k x = false) : bnd 1 x = false := by
  unfold bnd at h ⊢
  rcases hk with rfl | rfl
  · simp at h ⊢
    exact h.1
  · simp at h ⊢
    exact h.1

theorem scpR_more (k : Int) (L : List ByteArray) (hk : k = 2 ∨ k = 3) : ∀ r : List (Itm α), scpR k L r = true → scpR 1 L r = true
  | [], h => by simp [scpR] at h
  | x :: r, h => by
    unfold scpR at h ⊢
    split
    · rfl
    · rename_i h1
      rw [if_neg h1] at h
      cases hb : bnd k x
      · rw [hb] at h
        rw [bnd_more k x hk hb]
        simp only [Bool.false_eq_true, if_false] at h ⊢
        exact scpR_more k L hk r h
      · rw [hb] at h
        simp at h

theorem scp_more (k : Int) (L : List ByteArray) (hk : k = 2 ∨ k = 3) (zs : List (Itm α)) (h : scp k L zs = true) : scp 1 L zs = true := by
  unfold scp at h ⊢
  rw [if_pos (by omega)] at h
  rw [if_pos (by omega)]
  exact scpR_more k L hk _ h

theorem scpR_has (k : Int) (s : ByteArray) : ∀ r : List (Itm α), scpR k [s] r = true → (r.any fun x => isIn [s] x) = true
  | [], h => by simp [scpR] at h
  | x :: r, h => by
    unfold scpR at h
    rw [List.any_cons]
    split at h
    · rename_i h1
      rw [h1]
      rfl
    · split at h
      · simp at h
      · rw [scpR_has k s r h]
        simp

theorem scp_has (k : Int) (s : ByteArray) (zs : List (Itm α)) (h : scp k [s] zs = true) : hasN s zs = true := by
  unfold scp at h
  split at h
  · have := scpR_has k s _ h
    rw [List.any_reverse] at this
    exact this
  · simp at h

theorem bnd_table (k : Int) (hk : 1 ≤ k ∧ k ≤ 4) (h : α) : bnd k ((h, 1, ⟨#[116, 97, 98, 108, 101]⟩) : Itm α) = true := by
  rcases (show k = 1 ∨ k = 2 ∨ k = 3 ∨ k = 4 by omega) with rfl | rfl | rfl | rfl
  · show bound 1 ⟨#[116, 97, 98, 108, 101]⟩ = true
    kernel_rfl
  · show (bound 1 ⟨#[116, 97, 98, 108, 101]⟩ || _) = true
    rw [show bound 1 ⟨#[116, 97, 98, 108, 101]⟩ = true by kernel_rfl]
    rfl
  · show (bound 1 ⟨#[116, 97, 98, 108, 101]⟩ || _) = true
    rw [show bound 1 ⟨#[116, 97, 98, 108, 101]⟩ = true by kernel_rfl]
    rfl
  · show isIn TAB ((h, 1, ⟨#[116, 97, 98, 108, 101]⟩) : Itm α) = true
    unfold isIn
    show (((1 : Int) == 1) && (TAB.any fun y => y.toList == (⟨#[116, 97, 98, 108, 101]⟩ : ByteArray).toList)) = true
    kernel_rfl

/-- A table bounds all. -/
theorem scp_table (k : Int) (s : ByteArray) (zs : List (Itm α)) (h : α) (hk : 1 ≤ k ∧ k ≤ 4) (hs : (s.toList == (⟨#[116, 97, 98, 108, 101]⟩ : ByteArray).toList) = false) : scp k [s] (zs ++ [(h, 1, ⟨#[116, 97, 98, 108, 101]⟩)]) = false := by
  unfold scp
  rw [if_pos hk, List.reverse_append, List.reverse_singleton, List.singleton_append, scpR]
  have h1 : isIn [s] ((h, 1, ⟨#[116, 97, 98, 108, 101]⟩) : Itm α) = false := by
    unfold isIn
    simp only [List.any_cons, List.any_nil, Bool.or_false]
    rw [hs]
    rfl
  rw [h1, bnd_table k hk]
  simp

theorem isIn_self (s : ByteArray) (h : α) : isIn [s] ((h, 1, s) : Itm α) = true := by
  unfold isIn
  simp

theorem scp_self (k : Int) (s : ByteArray) (zs : List (Itm α)) (h : α) (hk : 1 ≤ k ∧ k ≤ 4) : scp k [s] (zs ++ [(h, 1, s)]) = true := by
  unfold scp
  rw [if_pos hk, List.reverse_append, List.reverse_singleton, List.singleton_append, scpR, isIn_self]
  simp

theorem untN_self (s : ByteArray) (zs : List (Itm α)) (h : α) : untN [s] (zs ++ [(h, 1, s)]) = 1 := by
  rw [untN_snoc, isIn_self]
  rfl

end Go.Proofs.Ytpadnfpifldoaaa
