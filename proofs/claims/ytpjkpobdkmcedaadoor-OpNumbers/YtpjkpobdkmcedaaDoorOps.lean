/-
  Operations by themselves: when one is right, and when two are the same. No program.
-/
import Derived.Test.YtpjkpobdkmcedaaDoorShort
import Derived.Test.YtpjkpobdkmcedaaDoorSame
namespace Go.Proofs.YtpjkpobdkmcedaaDoor
open Go.RowKit Utf
set_option linter.unusedVariables false
set_option linter.unusedSimpArgs false

/-- An operation. -/
structure Ot where
  kd : Int
  nd : Int
  pa : Int
  rf : Int
  ty : Int
  ns : Int
  nm : ByteArray
  al : List Att
  tt : ByteArray

/-- A slice: where it begins, how long it is, its room. -/
abbrev Sl := Option Addr × Nat × Nat

/-- An operation's cells, its attributes lying at p. -/
def oc (o : Ot) (p : Sl) : Array Value := #[.int .i64 o.kd, .int .i64 o.nd, .int .i64 o.pa, .int .i64 o.rf, .int .i64 o.ty, .int .i64 o.ns, .string o.nm, .slice p.1 p.2.1 p.2.2, .string o.tt]
/-- As a value. -/
def ov (o : Ot) (p : Sl) : Value := .agg #[.int .i64 o.kd, .int .i64 o.nd, .int .i64 o.pa, .int .i64 o.rf, .int .i64 o.ty, .int .i64 o.ns, .string o.nm, .slice p.1 p.2.1 p.2.2, .string o.tt]

/-- No text. -/
def e0 : ByteArray := ⟨#[]⟩

/-- The same? -/
def sameO (a b : Ot) : Bool := (a.kd == b.kd) && ((a.nd == b.nd) && ((a.pa == b.pa) && ((a.rf == b.rf) && ((a.ty == b.ty) && ((a.ns == b.ns) && (eqs a.nm b.nm && (eqs a.tt b.tt && same a.al b.al)))))))

theorem sameO_iff {a b : Ot} : sameO a b = true ↔ a = b := by
  obtain ⟨a1, a2, a3, a4, a5, a6, a7, a8, a9⟩ := a
  obtain ⟨b1, b2, b3, b4, b5, b6, b7, b8, b9⟩ := b
  simp only [sameO, Bool.and_eq_true, beq_iff_eq, eqs_iff, same, decide_eq_true_eq, Ot.mk.injEq]
  constructor
  · rintro ⟨h1, h2, h3, h4, h5, h6, h7, h8, h9⟩
    exact ⟨h1, h2, h3, h4, h5, h6, h7, h9, h8⟩
  · rintro ⟨h1, h2, h3, h4, h5, h6, h7, h8, h9⟩
    exact ⟨h1, h2, h3, h4, h5, h6, h7, h9, h8⟩

theorem sameO_refl (a : Ot) : sameO a a = true := sameO_iff.2 rfl

/-- May a node have that number? -/
def inR (n : Int) : Bool := decide (0 ≤ n) && decide (n ≤ 2147483647)

/-- Are these nothing? -/
def zr (l : List Int) (x y : ByteArray) (q : List Att) : Bool := l.all (fun n => n == 0) && (eqs x e0 && (eqs y e0 && q.isEmpty))

/-- Can a node of that kind be made? -/
def mk3 (t : Int) : Bool := t == 2 || t == 3 || t == 5

/-- What the Kind asks. -/
def rightK (o : Ot) : Bool :=
  if o.kd = 1 then mk3 o.ty && ((o.pa == 0) && (o.rf == 0))
  else if o.kd = 2 then zr [o.rf, o.ty, o.ns] o.nm o.tt o.al
  else if o.kd = 3 ∨ o.kd = 9 then zr [o.pa, o.ty, o.ns] o.nm o.tt o.al
  else if o.kd = 4 then zr [o.ty, o.ns] o.nm o.tt o.al
  else if o.kd = 5 then zr [o.nd, o.rf, o.ty, o.ns] o.nm e0 o.al
  else if o.kd = 6 then zr [o.nd, o.ty, o.ns] o.nm e0 o.al
  else if o.kd = 7 then zr [o.pa, o.rf, o.ty, o.ns] o.nm o.tt o.al
  else if o.kd = 8 then zr [o.nd, o.ty, o.ns] o.nm o.tt o.al
  else if o.kd = 10 then zr [o.pa, o.rf, o.ty, o.ns] o.nm o.tt []
  else if o.kd = 11 then zr [o.nd, o.pa, o.rf, o.ty, o.ns] o.nm o.tt o.al
  else false

/-- Is it right? -/
def rightO (o : Ot) : Bool := (inR o.nd && (inR o.pa && inR o.rf)) && ((decide (0 ≤ o.ns) && decide (o.ns ≤ 2)) && rightK o)

/-- A Kind at all? -/
def kk (k : Int) : Bool := decide (1 ≤ k) && decide (k ≤ 11)

/-- What its Kind names alone. -/
def onlyO (o : Ot) : Ot :=
  if o.kd = 1 then ⟨o.kd, o.nd, 0, 0, o.ty, o.ns, o.nm, o.al, o.tt⟩
  else if o.kd = 2 then ⟨o.kd, o.nd, o.pa, 0, 0, 0, e0, [], e0⟩
  else if o.kd = 3 ∨ o.kd = 9 then ⟨o.kd, o.nd, 0, o.rf, 0, 0, e0, [], e0⟩
  else if o.kd = 4 then ⟨o.kd, o.nd, o.pa, o.rf, 0, 0, e0, [], e0⟩
  else if o.kd = 5 then ⟨o.kd, 0, o.pa, 0, 0, 0, e0, [], o.tt⟩
  else if o.kd = 6 then ⟨o.kd, 0, o.pa, o.rf, 0, 0, e0, [], o.tt⟩
  else if o.kd = 7 then ⟨o.kd, o.nd, 0, 0, 0, 0, e0, [], e0⟩
  else if o.kd = 8 then ⟨o.kd, 0, o.pa, o.rf, 0, 0, e0, [], e0⟩
  else if o.kd = 10 then ⟨o.kd, o.nd, 0, 0, 0, 0, e0, o.al, e0⟩
  else if o.kd = 11 then ⟨o.kd, 0, 0, 0, 0, 0, e0, [], e0⟩
  else ⟨0, 0, 0, 0, 0, 0, e0, [], e0⟩

theorem isE {l : List Att} : same l [] = l.isEmpty := by
  unfold same
  cases l <;> simp

/-- The program's judgement is the document's. -/
theorem prog_right (o : Ot) : (kk o.kd && (sameO o (onlyO o) && (inR o.nd && (inR o.pa && (inR o.rf && (decide (0 ≤ o.ns) && (decide (o.ns ≤ 2) && (o.kd != 1 || mk3 o.ty)))))))) = rightO o := by
  obtain ⟨k, a2, a3, a4, a5, a6, a7, a8, a9⟩ := o
  have z0 : inR 0 = true := by decide
  have z1 : ∀ x, eqs x x = true := eqs_refl
  have z2 : ∀ l : List Att, same l l = true := fun l => same_yes rfl
  by_cases hk : 1 ≤ k ∧ k ≤ 11
  · obtain rfl | rfl | rfl | rfl | rfl | rfl | rfl | rfl | rfl | rfl | rfl : k = 1 ∨ k = 2 ∨ k = 3 ∨ k = 4 ∨ k = 5 ∨ k = 6 ∨ k = 7 ∨ k = 8 ∨ k = 9 ∨ k = 10 ∨ k = 11 := by omega
    all_goals
      simp only [kk, onlyO, sameO, rightO, rightK, zr, isE, z1, z2, List.all_cons, List.all_nil]
      simp [isE]
      try (rw [Bool.eq_iff_iff]; simp only [Bool.and_eq_true, Bool.or_eq_true, beq_iff_eq, decide_eq_true_eq]; constructor <;> intro h <;> simp_all)
  · have h1 : kk k = false := by
      unfold kk
      simp [isE]
      omega
    have h2 : rightK ⟨k, a2, a3, a4, a5, a6, a7, a8, a9⟩ = false := by
      unfold rightK
      simp only
      repeat rw [if_neg (by omega)]
    simp only [rightO, h1, h2]
    simp

end Go.Proofs.YtpjkpobdkmcedaaDoor
