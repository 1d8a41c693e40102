/-
  Open elements, and what the document asks of lists of them: no program. All that goes from the last one down is said of the list turned round.
-/
import Derived.Test.YtpadnfpifldoaaaWords
namespace Go.Proofs.Ytpadnfpifldoaaa

/-- An open element: its handle, its namespace, its name. -/
abbrev Itm (α : Type) := α × Int × ByteArray
variable {α β : Type}

/-- It is of one of these names. -/
def isIn (L : List ByteArray) (x : Itm α) : Bool := (x.2.1 == 1) && (L.any fun y => y.toList == x.2.2.toList)

def OLUL : List ByteArray := [⟨#[111, 108]⟩, ⟨#[117, 108]⟩]
def BUT : List ByteArray := [⟨#[98, 117, 116, 116, 111, 110]⟩]
def TAB : List ByteArray := [⟨#[104, 116, 109, 108]⟩, ⟨#[116, 97, 98, 108, 101]⟩, ⟨#[116, 101, 109, 112, 108, 97, 116, 101]⟩]
def HTM : List ByteArray := [⟨#[104, 116, 109, 108]⟩, ⟨#[116, 101, 109, 112, 108, 97, 116, 101]⟩]
def IMP : List ByteArray := [⟨#[100, 100]⟩, ⟨#[100, 116]⟩, ⟨#[108, 105]⟩, ⟨#[112]⟩]

/-- It ends a scope of that kind. -/
def bnd (k : Int) (x : Itm α) : Bool :=
  if k = 2 then bound x.2.1 x.2.2 || isIn OLUL x else if k = 3 then bound x.2.1 x.2.2 || isIn BUT x else if k = 4 then isIn TAB x else bound x.2.1 x.2.2

/-- Scope, of the list turned round. -/
def scpR (k : Int) (L : List ByteArray) : List (Itm α) → Bool
  | [] => false
  | x :: r => if isIn L x then true else if bnd k x then false else scpR k L r

def scp (k : Int) (L : List ByteArray) (zs : List (Itm α)) : Bool := if 1 ≤ k ∧ k ≤ 4 then scpR k L zs.reverse else false

/-- Until, of the list turned round: what is left, and how many were popped. -/
def untR (L : List ByteArray) : List (Itm α) → List (Itm α) × Nat
  | [] => ([], 0)
  | x :: r => if isIn L x then (r, 1) else ((untR L r).1, (untR L r).2 + 1)

def unt (L : List ByteArray) (zs : List (Itm α)) : List (Itm α) := (untR L zs.reverse).1.reverse
def untN (L : List ByteArray) (zs : List (Itm α)) : Nat := (untR L zs.reverse).2

/-- The last ones go, as long as p holds of them. -/
def popW (p : Itm α → Bool) (zs : List (Itm α)) : List (Itm α) := (zs.reverse.dropWhile p).reverse

def goI (but : ByteArray) (x : Itm α) : Bool := (x.2.1 == 1) && (!(x.2.2.toList == but.toList)) && has IMPL x.2.2
def goT (x : Itm α) : Bool := (x.2.1 == 1) && thorough x.2.2
def goC (L : List ByteArray) (x : Itm α) : Bool := !isIn L x && !isIn HTM x

/-- The place of the last one of which eq holds, of the list turned round. -/
def plcR (eq : α → Bool) : List (Itm α) → Int
  | [] => -1
  | x :: r => if eq x.1 then (r.length : Int) else plcR eq r

def plc (eq : α → Bool) (zs : List (Itm α)) : Int := plcR eq zs.reverse

def hasN (s : ByteArray) (zs : List (Itm α)) : Bool := zs.any fun x => isIn [s] x

theorem rev_take {γ : Type} (l : List γ) (k : Nat) (h : k < l.length) : (l.take (k + 1)).reverse = l[k] :: (l.take k).reverse := by
  rw [List.take_succ_eq_append_getElem h]
  simp

theorem rev_all {γ : Type} (l : List γ) : (l.take l.length).reverse = l.reverse := by rw [List.take_of_length_le (Nat.le_refl _)]

theorem plcR_range (eq : α → Bool) : ∀ r : List (Itm α), -1 ≤ plcR eq r ∧ plcR eq r < r.length
  | [] => by simp [plcR]
  | x :: r => by
    have := plcR_range eq r
    unfold plcR
    split <;> simp <;> omega

theorem plc_range (eq : α → Bool) (zs : List (Itm α)) : -1 ≤ plc eq zs ∧ plc eq zs < zs.length := by
  have := plcR_range eq zs.reverse
  simpa [plc] using this

theorem popW_nil (p : Itm α → Bool) : popW p [] = [] := rfl

theorem popW_snoc (p : Itm α → Bool) (ys : List (Itm α)) (x : Itm α) : popW p (ys ++ [x]) = if p x then popW p ys else ys ++ [x] := by
  unfold popW
  rw [List.reverse_append, List.reverse_singleton, List.singleton_append, List.dropWhile_cons]
  split
  · rfl
  · simp

theorem unt_nil (L : List ByteArray) : unt L ([] : List (Itm α)) = [] := rfl
theorem untN_nil (L : List ByteArray) : untN L ([] : List (Itm α)) = 0 := rfl

theorem unt_snoc (L : List ByteArray) (ys : List (Itm α)) (x : Itm α) : unt L (ys ++ [x]) = if isIn L x then ys else unt L ys := by
  unfold unt
  rw [List.reverse_append, List.reverse_singleton, List.singleton_append, untR]
  split <;> simp

theorem untN_snoc (L : List ByteArray) (ys : List (Itm α)) (x : Itm α) : untN L (ys ++ [x]) = if isIn L x then 1 else untN L ys + 1 := by
  unfold untN
  rw [List.reverse_append, List.reverse_singleton, List.singleton_append, untR]
  split <;> simp

theorem snoc_or {γ : Type} (l : List γ) : l = [] ∨ ∃ r x, l = r ++ [x] := by
  rcases Nat.eq_zero_or_pos l.length with h | h
  · exact Or.inl (List.eq_nil_of_length_eq_zero h)
  · exact Or.inr ⟨l.dropLast, l.getLast (List.length_pos_iff.1 h), (List.dropLast_concat_getLast _).symm⟩

/-- What scopes tell hangs on namespaces and names alone. -/
theorem scpR_alike (k : Int) (L : List ByteArray) : ∀ (r : List (Itm α)) (t : List (Itm β)), r.map (·.2) = t.map (·.2) → scpR k L r = scpR k L t
  | [], [], _ => rfl
  | [], y :: t, h => by simp at h
  | x :: r, [], h => by simp at h
  | x :: r, y :: t, h => by
    simp only [List.map_cons, List.cons.injEq] at h
    have h1 : isIn L x = isIn L y := by unfold isIn; rw [h.1]
    have h2 : bnd k x = bnd k y := by unfold bnd isIn; rw [h.1]
    unfold scpR
    rw [h1, h2, scpR_alike k L r t h.2]

theorem scp_alike (k : Int) (L : List ByteArray) (r : List (Itm α)) (t : List (Itm β)) (h : r.map (·.2) = t.map (·.2)) : scp k L r = scp k L t := by
  unfold scp
  rw [scpR_alike k L r.reverse t.reverse (by rw [List.map_reverse, List.map_reverse, h])]

theorem untR_len (L : List ByteArray) : ∀ r : List (Itm α), (untR L r).1.length + (untR L r).2 = r.length
  | [] => rfl
  | x :: r => by
    have := untR_len L r
    unfold untR
    split <;> simp <;> omega

theorem untR_pos (L : List ByteArray) (x : Itm α) (r : List (Itm α)) : 0 < (untR L (x :: r)).2 := by
  unfold untR
  split <;> simp

theorem dw_head {γ : Type} (p : γ → Bool) : ∀ (l : List γ) (y : γ) (r : List γ), l.dropWhile p = y :: r → p y = false
  | [], _, _, h => by simp at h
  | a :: l, y, r, h => by
    rw [List.dropWhile_cons] at h
    split at h
    · exact dw_head p l y r h
    · rename_i h1
      simp only [List.cons.injEq] at h
      rw [← h.1]
      simpa using h1

theorem dw_nil {γ : Type} (p : γ → Bool) : ∀ l : List γ, l.dropWhile p = [] → ∀ x, x ∈ l → p x = true
  | [], _, x, hx => by simp at hx
  | a :: l, h, x, hx => by
    rw [List.dropWhile_cons] at h
    split at h
    · rename_i h1
      rcases List.mem_cons.1 hx with rfl | h2
      · exact h1
      · exact dw_nil p l h x h2
    · simp at h

/-- Behind popW no last one is left of which p holds. -/
theorem popW_last (p : Itm α → Bool) (zs : List (Itm α)) (x : Itm α) (h : (popW p zs).getLast? = some x) : p x = false := by
  unfold popW at h
  rw [List.getLast?_reverse] at h
  cases hd : zs.reverse.dropWhile p with
  | nil => rw [hd] at h; simp at h
  | cons y r =>
    rw [hd] at h
    simp at h
    subst h
    exact dw_head p _ _ _ hd

theorem popW_prefix (p : Itm α → Bool) (zs : List (Itm α)) : popW p zs <+: zs := by
  unfold popW
  have h := List.dropWhile_suffix (l := zs.reverse) p
  rw [← List.reverse_prefix] at h
  simpa using h

theorem popW_none (p : Itm α → Bool) (zs : List (Itm α)) (h : popW p zs = []) (x : Itm α) (hx : x ∈ zs) : p x = true := by
  unfold popW at h
  simp only [List.reverse_eq_nil_iff] at h
  exact dw_nil p _ h x (by simpa using hx)

end Go.Proofs.Ytpadnfpifldoaaa
