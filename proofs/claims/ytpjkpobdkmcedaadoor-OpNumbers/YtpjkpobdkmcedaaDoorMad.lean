/-
  made: an operation as it comes, or one whose Kind names all that it has. No program.
-/
import Derived.Test.YtpjkpobdkmcedaaDoorEncD
namespace Go.Proofs.YtpjkpobdkmcedaaDoor
open Go.RowKit Utf
set_option linter.unusedVariables false
set_option linter.unusedSimpArgs false

/-- Its texts and attributes, none of them long. -/
def cutO (o : Ot) : Ot := ⟨o.kd, o.nd, o.pa, o.rf, o.ty, o.ns, cutB o.nm 20, short o.al, cutB o.tt 30⟩

/-- Which Kind is made. -/
def kx (k : Int) : Nat := wi k 1000 % 11 + 1

theorem kx_range (k : Int) : 1 ≤ kx k ∧ kx k ≤ 11 := by
  unfold kx
  omega

/-- A number brought into a node's range. -/
def w31 (n : Int) : Int := (wi n 2147483647 : Nat)

theorem w31_in (n : Int) : 0 ≤ w31 n ∧ w31 n ≤ 2147483647 := by
  have := wi_le n 2147483647
  unfold w31
  omega

/-- One of that Kind. -/
def madeT (o : Ot) (k : Nat) : Ot :=
  if k = 1 then ⟨1, w31 o.nd, 0, 0, 2 + (wi o.ty 1 : Nat), (wi o.ns 2 : Nat), o.nm, o.al, o.tt⟩
  else if k = 2 then ⟨2, w31 o.nd, w31 o.pa, 0, 0, 0, e0, [], e0⟩
  else if k = 3 then ⟨3, w31 o.nd, 0, w31 o.rf, 0, 0, e0, [], e0⟩
  else if k = 4 then ⟨4, w31 o.nd, w31 o.pa, w31 o.rf, 0, 0, e0, [], e0⟩
  else if k = 5 then ⟨5, 0, w31 o.pa, 0, 0, 0, e0, [], o.tt⟩
  else if k = 6 then ⟨6, 0, w31 o.pa, w31 o.rf, 0, 0, e0, [], o.tt⟩
  else if k = 7 then ⟨7, w31 o.nd, 0, 0, 0, 0, e0, [], e0⟩
  else if k = 8 then ⟨8, 0, w31 o.pa, w31 o.rf, 0, 0, e0, [], e0⟩
  else if k = 9 then ⟨9, w31 o.nd, 0, w31 o.rf, 0, 0, e0, [], e0⟩
  else if k = 10 then ⟨10, w31 o.nd, 0, 0, 0, 0, e0, o.al, e0⟩
  else ⟨11, 0, 0, 0, 0, 0, e0, [], e0⟩

/-- What made makes. -/
def madeO (o : Ot) (t : Bool) (k : Int) : Ot := if t then madeT (cutO o) (kx k) else cutO o

theorem madeT_right (o : Ot) (k : Nat) (h : 1 ≤ k ∧ k ≤ 11) : rightO (madeT o k) = true := by
  have a1 : inR (w31 o.nd) = true := by have := w31_in o.nd; simp [inR, this]
  have a2 : inR (w31 o.pa) = true := by have := w31_in o.pa; simp [inR, this]
  have a3 : inR (w31 o.rf) = true := by have := w31_in o.rf; simp [inR, this]
  have z0 : inR 0 = true := by decide
  have z1 : ∀ x, eqs x x = true := eqs_refl
  obtain rfl | rfl | rfl | rfl | rfl | rfl | rfl | rfl | rfl | rfl | rfl : k = 1 ∨ k = 2 ∨ k = 3 ∨ k = 4 ∨ k = 5 ∨ k = 6 ∨ k = 7 ∨ k = 8 ∨ k = 9 ∨ k = 10 ∨ k = 11 := by omega
  · have t1 := wi_le o.ty 1
    have t2 := wi_le o.ns 2
    have m3 : mk3 (2 + (wi o.ty 1 : Nat)) = true := by
      obtain h1 | h1 : wi o.ty 1 = 0 ∨ wi o.ty 1 = 1 := by omega
      · rw [h1]; decide
      · rw [h1]; decide
    simp [madeT, rightO, rightK, a1, z0, m3]
    omega
  all_goals simp [madeT, rightO, rightK, zr, z1, a1, a2, a3, z0]

theorem cutB_size (s : ByteArray) (m : Nat) : (cutB s m).size ≤ m := cut_size s m

theorem short_each {l : List Att} {a : Att} (h : a ∈ short l) : a.1.size ≤ 20 ∧ a.2.size ≤ 30 := by
  unfold short at h
  obtain ⟨x, _, rfl⟩ := List.mem_map.1 h
  exact ⟨cutB_size _ _, cutB_size _ _⟩

/-- It is small. -/
def smallO (o : Ot) : Prop := o.nm.size ≤ 20 ∧ o.tt.size ≤ 30 ∧ o.al.length ≤ 6 ∧ ∀ a, a ∈ o.al → a.1.size ≤ 20 ∧ a.2.size ≤ 30

theorem cutO_small (o : Ot) : smallO (cutO o) := ⟨cutB_size _ _, cutB_size _ _, short_len _, fun a ha => short_each ha⟩

theorem madeT_small {o : Ot} (h : smallO o) (k : Nat) : smallO (madeT o k) := by
  obtain ⟨h1, h2, h3, h4⟩ := h
  have e : e0.size = 0 := rfl
  unfold madeT
  repeat' split
  all_goals refine ⟨?_, ?_, ?_, ?_⟩
  all_goals first | exact h1 | exact h2 | exact h3 | exact h4 | (show e0.size ≤ _; rw [e]; omega) | (show ([] : List Att).length ≤ _; simp) | (intro a ha; cases ha)

theorem madeO_small (o : Ot) (t : Bool) (k : Int) : smallO (madeO o t k) := by
  unfold madeO
  split
  · exact madeT_small (cutO_small o) _
  · exact cutO_small o

theorem small_fit {o : Ot} (h : smallO o) : fitO o := ⟨by have := h.1; omega, by have := h.2.1; omega, by have := h.2.2.1; omega, fun a ha => by have := h.2.2.2 a ha; omega⟩

theorem ab_small : ∀ (l : List Att), (∀ a, a ∈ l → a.1.size ≤ 20 ∧ a.2.size ≤ 30) → (ab l).length ≤ l.length * 56
  | [], _ => Nat.le_refl _
  | a :: l, h => by
    have h1 := h a (by simp)
    have h2 := ab_small l (fun x hx => h x (by simp [hx]))
    simp only [ab, List.length_append, tb_len, List.length_cons]
    omega

theorem small_ab {o : Ot} (h : smallO o) : (ab o.al).length ≤ 336 := by
  have h1 := ab_small o.al h.2.2.2
  have h2 := h.2.2.1
  omega

theorem small_ob {o : Ot} (h : smallO o) : (ob o).length ≤ 409 := by
  have h1 := small_ab h
  have h2 := h.1
  have h3 := h.2.1
  rw [ob_len]
  omega

theorem tame_ok (o : Ot) (k : Int) : okO (madeO o true k) = true := by
  unfold okO
  rw [fitB_iff.2 (small_fit (madeO_small o true k))]
  have : rightO (madeO o true k) = true := by
    unfold madeO
    rw [if_pos rfl]
    exact madeT_right _ _ (kx_range k)
  rw [this]
  rfl

end Go.Proofs.YtpjkpobdkmcedaaDoor
