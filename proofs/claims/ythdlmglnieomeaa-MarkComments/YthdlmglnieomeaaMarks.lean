/-
  Marks by themselves: where a sign ends something, what a comment, a doctype, a section and the rest are. No program.
-/
import Derived.Test.YthdlmglnieomeaaCat
namespace Go.Proofs.Ythdlmglnieomeaa
open Go.RowKit Utf
set_option linter.unusedVariables false

def GT : ByteArray := ⟨#[62]⟩
def DGT : ByteArray := ⟨#[45, 62]⟩
def E1 : ByteArray := ⟨#[45, 45, 62]⟩
def E2 : ByteArray := ⟨#[45, 45, 33, 62]⟩
def E3 : ByteArray := ⟨#[93, 93, 62]⟩
def D3 : ByteArray := ⟨#[45, 45, 33]⟩
def D2 : ByteArray := ⟨#[45, 45]⟩
def D1 : ByteArray := ⟨#[45]⟩
def DT : ByteArray := ⟨#[9, 10, 12, 13, 32, 62]⟩
def EMP : ByteArray := ⟨#[60, 47, 62]⟩
def COM : ByteArray := ⟨#[60, 33, 45, 45]⟩
def DOC : ByteArray := ⟨#[60, 33, 100, 111, 99, 116, 121, 112, 101]⟩
def CDA : ByteArray := ⟨#[60, 33, 91, 67, 68, 65, 84, 65, 91]⟩

/-- How long the first of these signs is that stands at i; 0, if none does. -/
def pick (s : ByteArray) (i : Nat) : List ByteArray → Nat
  | [] => 0
  | x :: l => if st s i x then x.size else pick s i l

/-- None of them is empty. -/
def solid (l : List ByteArray) : Prop := ∀ x, x ∈ l → 0 < x.size

/-- The first place from p on where one of these signs stands; the end, if none does. -/
def eP (s : ByteArray) (l : List ByteArray) (p : Nat) : Nat := fs (fun i => decide (pick s i l ≠ 0)) p s.size
/-- The place behind it. -/
def eN (s : ByteArray) (l : List ByteArray) (p : Nat) : Nat := eP s l p + pick s (eP s l p) l

theorem pick_le (s : ByteArray) (i : Nat) : ∀ l : List ByteArray, pick s i l = 0 ∨ i + pick s i l ≤ s.size
  | [] => Or.inl rfl
  | x :: l => by
    rw [pick]
    cases h : st s i x with
    | true => exact Or.inr (st_le h)
    | false => exact pick_le s i l

theorem eP_is (s : ByteArray) (l : List ByteArray) {p : Nat} (h : p ≤ s.size) : Fs (fun i => decide (pick s i l ≠ 0)) p s.size (eP s l p) := fs_is _ h

theorem eN_le (s : ByteArray) (l : List ByteArray) {p : Nat} (h : p ≤ s.size) : eP s l p ≤ eN s l p ∧ eN s l p ≤ s.size := by
  have h1 := (eP_is s l h).hi
  unfold eN
  rcases pick_le s (eP s l p) l with h2 | h2 <;> omega

theorem eP_end {s : ByteArray} {l : List ByteArray} {p : Nat} (h : p ≤ s.size) (e : eP s l p = s.size) : eN s l p = s.size := by
  have h2 := eN_le s l h
  omega

theorem eP_at {s : ByteArray} {l : List ByteArray} {p : Nat} (h : p ≤ s.size) (e : eP s l p < s.size) : pick s (eP s l p) l ≠ 0 := by
  have := (eP_is s l h).at' e
  simpa using this

theorem pick_one (s : ByteArray) (i : Nat) (x : ByteArray) (hx : 0 < x.size) : decide (pick s i [x] ≠ 0) = st s i x := by
  rw [pick]
  cases st s i x with
  | true => exact decide_eq_true (fun h => by rw [if_pos rfl] at h; omega)
  | false => exact decide_eq_false (fun h => h rfl)

theorem eP_one (s : ByteArray) (x : ByteArray) (hx : 0 < x.size) (p : Nat) : eP s [x] p = findF s x p := fs_congr (fun i => pick_one s i x hx) _ _

theorem eN_one {s : ByteArray} (x : ByteArray) (hx : 0 < x.size) {p : Nat} (h : p ≤ s.size) : eN s [x] p = if findF s x p < s.size then findF s x p + x.size else s.size := by
  have e1 := eP_one s x hx p
  by_cases h1 : findF s x p < s.size
  · rw [if_pos h1]
    have h2 := eP_at h (l := [x]) (by omega)
    unfold eN
    rw [e1] at h2 ⊢
    have h3 := pick_one s (findF s x p) x hx
    rw [decide_eq_true h2] at h3
    rw [pick, ← h3]
    rfl
  · rw [if_neg h1]
    have h2 := (eP_is s [x] h).hi
    exact eP_end h (by omega)

/-- The first places up to k have none of them, and at k none of the first j has one. -/
theorem pick_snoc (s : ByteArray) (i : Nat) (x : ByteArray) : ∀ l : List ByteArray, (∀ y, y ∈ l → st s i y = false) → pick s i (l ++ [x]) = if st s i x then x.size else 0
  | [], _ => rfl
  | y :: l, h => by
    rw [List.cons_append, pick, h y (by simp), pick_snoc s i x l (fun z hz => h z (by simp [hz]))]
    rfl

theorem pick_none (s : ByteArray) (i : Nat) : ∀ l : List ByteArray, (∀ y, y ∈ l → st s i y = false) → pick s i l = 0
  | [], _ => rfl
  | y :: l, h => by
    rw [pick, h y (by simp), pick_none s i l (fun z hz => h z (by simp [hz]))]
    rfl

theorem pick_first (s : ByteArray) (i : Nat) : ∀ (l : List ByteArray) (j : Nat) (hj : j < l.length), (∀ k (hk : k < j), st s i (l[k]'(by omega)) = false) → st s i l[j] = true → pick s i l = l[j].size
  | [], j, hj, _, _ => by simp at hj
  | y :: l, 0, hj, _, h => by
    rw [pick]
    rw [List.getElem_cons_zero] at h ⊢
    rw [h]
    rfl
  | y :: l, j + 1, hj, hn, h => by
    have h0 := hn 0 (by omega)
    rw [List.getElem_cons_zero] at h0
    rw [pick, h0]
    simp only [List.getElem_cons_succ] at h ⊢
    exact pick_first s i l j (by simpa using hj) (fun k hk => by
      have := hn (k + 1) (by omega)
      rwa [List.getElem_cons_succ] at this) h

/-- Where the text of a comment ends that has no end: ahead of the first of these that its end is. -/
def cutL (s : ByteArray) (f : Nat) : List ByteArray → Nat
  | [] => s.size
  | x :: l => if f + x.size ≤ s.size ∧ st s (s.size - x.size) x = true then s.size - x.size else cutL s f l

theorem cutL_le (s : ByteArray) {f : Nat} (hf : f ≤ s.size) : ∀ l : List ByteArray, f ≤ cutL s f l ∧ cutL s f l ≤ s.size
  | [] => ⟨hf, Nat.le_refl _⟩
  | x :: l => by
    rw [cutL]
    split
    · rename_i h
      omega
    · exact cutL_le s hf l

theorem cutL_snoc (s : ByteArray) (f : Nat) (x : ByteArray) : ∀ l : List ByteArray, solid l → cutL s f (l ++ [x]) = if cutL s f l = s.size then cutL s f [x] else cutL s f l
  | [], _ => by rw [cutL, if_pos rfl]; rfl
  | y :: l, h => by
    rw [List.cons_append, cutL, cutL]
    by_cases hc : f + y.size ≤ s.size ∧ st s (s.size - y.size) y = true
    · rw [if_pos hc, if_pos hc]
      have := h y (by simp)
      rw [if_neg (by omega)]
    · rw [if_neg hc, if_neg hc]
      exact cutL_snoc s f x l (fun z hz => h z (by simp [hz]))

def DS : List ByteArray := [D3, D2, D1]
def ES : List ByteArray := [E1, E2]
theorem ds_solid : solid DS := by
  intro x hx
  simp only [DS, List.mem_cons, List.mem_nil_iff, or_false] at hx
  rcases hx with rfl | rfl | rfl <;> decide
theorem es_solid : solid ES := by
  intro x hx
  simp only [ES, List.mem_cons, List.mem_nil_iff, or_false] at hx
  rcases hx with rfl | rfl <;> decide

/-- A token without attributes: its Kind, Name and Text. -/
abbrev Mt := Int × ByteArray × ByteArray
def z3 : Mt := (0, ⟨#[]⟩, ⟨#[]⟩)

/-- A comment, from behind its beginning on. -/
def cF (s : ByteArray) (f : Nat) : Mt × Nat :=
  if st s f GT then ((5, ⟨#[]⟩, ⟨#[]⟩), f + 1)
  else if st s f DGT then ((5, ⟨#[]⟩, ⟨#[]⟩), f + 2)
  else if eP s ES f = s.size then ((5, ⟨#[]⟩, s.extract f (cutL s f DS)), s.size)
  else ((5, ⟨#[]⟩, s.extract f (eP s ES f)), eN s ES f)
/-- A doctype, from behind that word on. -/
def dF (s : ByteArray) (f : Nat) : Mt × Nat := ((1, lower (s.extract (skipF s f) (untilF s DT (skipF s f))), ⟨#[]⟩), eN s [GT] (untilF s DT (skipF s f)))
/-- A section. -/
def kF (s : ByteArray) (f : Nat) : Mt × Nat := if eP s [E3] f = f then (z3, eN s [E3] f) else ((4, ⟨#[]⟩, s.extract f (eP s [E3] f)), eN s [E3] f)
/-- Anything else. -/
def oF (s : ByteArray) (f : Nat) : Mt × Nat := ((5, ⟨#[]⟩, s.extract f (eP s [GT] f)), eN s [GT] f)

/-- One of them begins at p. -/
def begM (s : ByteArray) (p : Nat) : Bool := decide (p + 1 < s.size ∧ bt s p = 60 ∧ (bt s (p + 1) = 33 ∨ bt s (p + 1) = 63 ∨ (bt s (p + 1) = 47 ∧ p + 2 < s.size ∧ isLet (bt s (p + 2)) = false)))
/-- What begins at p. -/
def rdM (s : ByteArray) (p : Nat) (b : Bool) : Mt × Nat :=
  if st s p EMP then (z3, p + 3)
  else if st s p COM then cF s (p + 4)
  else if fo s p DOC then dF s (p + 9)
  else if b && st s p CDA then kF s (p + 9)
  else if bt s (p + 1) = 63 then oF s (p + 1)
  else oF s (p + 2)
/-- All of it. -/
def mkF (s : ByteArray) (a : Int) (b : Bool) : Mt × Int × Bool :=
  if 0 ≤ a ∧ begM s a.toNat = true then ((rdM s a.toNat b).1, ((rdM s a.toNat b).2 : Int), true) else (z3, a, false)

theorem mk_yes {s : ByteArray} {p : Nat} (h : begM s p = true) (b : Bool) : mkF s (p : Int) b = ((rdM s p b).1, ((rdM s p b).2 : Int), true) := by
  unfold mkF
  rw [Int.toNat_natCast, if_pos ⟨by omega, h⟩]
theorem mk_no {s : ByteArray} {p : Nat} (h : begM s p = false) (b : Bool) : mkF s (p : Int) b = (z3, (p : Int), false) := by
  unfold mkF
  rw [Int.toNat_natCast, if_neg (by rw [h]; simp)]
theorem mk_lo {s : ByteArray} {a : Int} (h : a < 0) (b : Bool) : mkF s a b = (z3, a, false) := by
  unfold mkF
  rw [if_neg (by omega)]
theorem mk_hi {s : ByteArray} {a : Int} (h : (s.size : Int) ≤ a + 1) (b : Bool) : mkF s a b = (z3, a, false) := by
  unfold mkF
  rw [if_neg]
  rintro ⟨h1, h2⟩
  have := (of_decide_eq_true h2).1
  omega

theorem begM_is {s : ByteArray} {p : Nat} (h : begM s p = true) : p + 1 < s.size ∧ bt s p = 60 ∧ (bt s (p + 1) = 33 ∨ bt s (p + 1) = 63 ∨ (bt s (p + 1) = 47 ∧ p + 2 < s.size ∧ isLet (bt s (p + 2)) = false)) := of_decide_eq_true h

theorem cut_end (s : ByteArray) (p q : Nat) (h : q ≤ s.size) : (s.extract p q).size = q - p := by rw [ByteArray.size_extract]; omega

/-- Where they end. -/
theorem cF_le {s : ByteArray} {f : Nat} (hf : f ≤ s.size) : f ≤ (cF s f).2 ∧ (cF s f).2 ≤ s.size := by
  unfold cF
  cases h1 : st s f GT with
  | true => exact ⟨by show f ≤ f + 1; omega, st_le h1⟩
  | false =>
    cases h2 : st s f DGT with
    | true => exact ⟨by show f ≤ f + 2; omega, st_le h2⟩
    | false =>
      have h4 := (eP_is s ES hf).lo
      have h5 := eN_le s ES hf
      simp only [Bool.false_eq_true, if_false]
      split
      · exact ⟨hf, Nat.le_refl _⟩
      · exact ⟨by show f ≤ eN s ES f; omega, h5.2⟩
theorem dF_le {s : ByteArray} {f : Nat} (hf : f ≤ s.size) : f ≤ (dF s f).2 ∧ (dF s f).2 ≤ s.size := by
  have h1 := skip_is s hf
  have h2 := until_is s DT h1.hi
  have h3 := (eP_is s [GT] h2.hi).lo
  have h4 := eN_le s [GT] h2.hi
  have h5 := h1.lo
  have h6 := h2.lo
  exact ⟨by show f ≤ eN _ _ _; omega, h4.2⟩
theorem kF_le {s : ByteArray} {f : Nat} (hf : f ≤ s.size) : f ≤ (kF s f).2 ∧ (kF s f).2 ≤ s.size := by
  have h3 := (eP_is s [E3] hf).lo
  have h4 := eN_le s [E3] hf
  unfold kF
  split
  · exact ⟨by show f ≤ eN _ _ _; omega, h4.2⟩
  · exact ⟨by show f ≤ eN _ _ _; omega, h4.2⟩
theorem oF_le {s : ByteArray} {f : Nat} (hf : f ≤ s.size) : f ≤ (oF s f).2 ∧ (oF s f).2 ≤ s.size := by
  have h3 := (eP_is s [GT] hf).lo
  have h4 := eN_le s [GT] hf
  exact ⟨by show f ≤ eN _ _ _; omega, h4.2⟩

end Go.Proofs.Ythdlmglnieomeaa
