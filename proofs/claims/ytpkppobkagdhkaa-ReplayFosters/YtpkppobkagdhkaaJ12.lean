/-
  Joined: Grown Hold Stp Short Ops.
-/
import Derived.Test.YtpkppobkagdhkaaJ8
import Derived.Test.YtpkppobkagdhkaaJ11
import Derived.Test.YtpkppobkagdhkaaJ3
import Derived.Test.YtpkppobkagdhkaaJ6
import Derived.Deep.RegionHeld3

/-
  What the chapter's judgement is, and how the trees that are asked are grown: no program.
-/
namespace Go.Proofs.Ytpkppobkagdhkaa
set_option linter.unusedVariables false

def TMPL : ByteArray := ⟨#[116, 101, 109, 112, 108, 97, 116, 101]⟩

def tmplF (l : Lb) : Bool := decide (l.kind = 3 ∧ l.ns = 1 ∧ l.name = TMPL)

/-- May it hold no others? -/
def leafF (l : Lb) : Bool := decide (l.kind = 4 ∨ l.kind = 5 ∨ l.kind = 2)

/-- A node at the end of the one that a way leads to, and the way to it. -/
def underF (x : Lb) (y : Fo) : List Nat → Fo → Fo × List Nat
  | [], f => (f.app (.cons x y .nil), if leafF x then [] else [f.len])
  | i :: ws, f => (f.turn (fun k => (underF x y ws k).1) i, i :: (underF x y ws (f.under i)).2)

/-- The way leads to nodes that are there. -/
def Way : List Nat → Fo → Prop
  | [], _ => True
  | i :: ws, f => i < f.len ∧ Way ws (f.under i)

theorem Way.take {f : Fo} {ws : List Nat} (h : Way ws f) (n : Nat) : Way (ws.take n) f := by
  induction ws generalizing f n with
  | nil => simp [Way]
  | cons i ws ih =>
    cases n with
    | zero => simp [Way]
    | succ n => exact ⟨h.1, ih h.2 n⟩

theorem Way.grown {x : Lb} {y : Fo} {ws : List Nat} {f : Fo} (h : Way ws f) : Way (underF x y ws f).2 (underF x y ws f).1 := by
  induction ws generalizing f with
  | nil =>
    unfold underF
    split
    · trivial
    · exact ⟨by rw [Fo.len_app]; simp, trivial⟩
  | cons i ws ih =>
    obtain ⟨h1, h2⟩ := h
    obtain ⟨l, k, e⟩ := Fo.at_lt h1
    rw [Fo.under_of e] at h2
    refine ⟨by rw [show (underF x y (i :: ws) f).1 = f.turn (fun k => (underF x y ws k).1) i from rfl, Fo.len_turn]; exact h1, ?_⟩
    rw [show (underF x y (i :: ws) f).1 = f.turn (fun k => (underF x y ws k).1) i from rfl, Fo.under_of (Fo.drop_turn _ e), Fo.under_of e]
    exact ih h2

end Go.Proofs.Ytpkppobkagdhkaa

/-
  A region that draws its order, whose last operation is a call that waits for its loads by way of others. No program.
-/
namespace Go.Proofs.Ytpkppobkagdhkaa
open Go.RowKit
set_option linter.unusedVariables false

section
variable {P : Program} {ops : Array Oper} {Q : Exit → Act → World → Prop} {md : Region.Mode} {S : World → Prop} {T : List Nat}

/-- So many steps down from j stands i. -/
def wait (md : Region.Mode) (ops : Array Oper) : Nat → Nat → Nat → Bool
  | 0, _, _ => false
  | f + 1, j, i => match ops[j]? with
    | some oj => oj.after.any (fun e => Region.binds md e && (e.on == i || wait md ops f e.on i))
    | none => false

end

end Go.Proofs.Ytpkppobkagdhkaa

/-
  The steps of a region that draws its order, in short words: what an operation waits for is read off the region, and what comes of it is reckoned.
-/
namespace Go.Proofs.Ytpkppobkagdhkaa
open Go.RowKit
set_option linter.unusedVariables false

theorem pu1 {α : Type} (l : List α) (i : Nat) (a : α) : l.toArray.setIfInBounds i a = (l.set i a).toArray := List.setIfInBounds_toArray ..
theorem pu2 {α : Type} (x : α) (xs : List α) (a : α) : (x :: xs).set 0 a = a :: xs := List.set_cons_zero
theorem pu3 {α : Type} (x : α) (xs : List α) (i : Nat) (a : α) : (x :: xs).set (i + 1) a = x :: xs.set i a := List.set_cons_succ

section
variable {P : Program} {ops : Array Oper} {Q : Exit → Act → World → Prop} {md : Region.Mode} {S : World → Prop} {T : List Nat} {v : Value} {fuel : Nat} {listed : Array Bool} {a a' : Act} {w : World} {ty : TypeId} {po : String} {af : Array Edge} {gd : Option (Nat × Bool)}

theorem g_pure (i : Nat) (ds : Option Nat) (op : Op) (h : wpAnyG P md ops Q S T fuel (listed.setIfInBounds i true) a' w) (hi : ops[i]? = some ⟨ds, op, ty, po, af, gd⟩ := by exact rfl) (hw : Region.wanted ⟨ds, op, ty, po, af, gd⟩ (yielded ops a.tmps) = true := by exact rfl) (hy : ∀ w, (execOp a.eval ⟨ds, op, ty, po, af, gd⟩).run P w = .ok (.value v) w := by intro w; go_simp; try with_reducible rfl) (hp : a.put ds v = a' := by simp only [Act.put, pu1, pu2, pu3]; exact rfl) (hS : S w := by assumption)
    (hb : (Region.noSelect ops && Region.free md ops listed i && (Region.ready md ops listed).contains i && !T.contains i) = true := by kernel_rfl) (hQ : ∀ c a w, Q (.panic c) (a.put ds v) w → Q (.panic c) a w := by exact fun _ _ _ h => h) : wpAnyG P md ops Q S T (fuel + 1) listed a w := by
  simp only [Bool.and_eq_true] at hb
  subst hp
  exact wpAnyG_pure hi hb.1.1.1 hb.1.1.2 hb.1.2 hb.2 hQ (Or.inl ⟨hw, hy⟩) hS h

theorem g_take (i : Nat) (ds : Option Nat) (op : Op) (hy : ∀ w, S w → (execOp a.eval ⟨ds, op, ty, po, af, gd⟩).run P w = .ok (.value v) w) (h : wpAnyG P md ops Q S T fuel (listed.setIfInBounds i true) a' w) (hi : ops[i]? = some ⟨ds, op, ty, po, af, gd⟩ := by exact rfl) (hw : Region.wanted ⟨ds, op, ty, po, af, gd⟩ (yielded ops a.tmps) = true := by exact rfl) (hp : a.put ds v = a' := by simp only [Act.put, pu1, pu2, pu3]; exact rfl) (hS : S w := by assumption)
    (hb : (Region.noSelect ops && Region.free md ops listed i && (Region.ready md ops listed).contains i && (lastOf md ops T i && !T.contains i && T.all (fun j => !listed.getD j true))) = true := by kernel_rfl) (hQ : ∀ c a w, Q (.panic c) (a.put ds v) w → Q (.panic c) a w := by exact fun _ _ _ h => h) : wpAnyG P md ops Q S T (fuel + 1) listed a w := by
  rw [Bool.and_eq_true, Bool.and_eq_true, Bool.and_eq_true] at hb
  subst hp
  exact wpAnyG_take hi hb.1.1.1 hb.1.1.2 hb.1.2 hb.2 hQ (Or.inl ⟨hw, hy⟩) hS h

end

end Go.Proofs.Ytpkppobkagdhkaa

/-
  Short: the first six attributes, none of them long.
-/
namespace Go.Proofs.Ytpkppobkagdhkaa
open Go.RowKit

/-- No more of a text than m bytes. -/
def cutB (s : ByteArray) (m : Nat) : ByteArray := if m < s.size then s.extract 0 m else s

/-- The first six, none of them long. -/
def short (l : List Att) : List Att := (l.take 6).map fun a => (cutB a.1 20, cutB a.2 30)

end Go.Proofs.Ytpkppobkagdhkaa

/-
  Operations by themselves: when one is right, and when two are the same. No program.
-/
namespace Go.Proofs.Ytpkppobkagdhkaa
open Go.RowKit Utf
set_option linter.unusedVariables false
set_option linter.unusedSimpArgs false

/-- An operation. -/
structure Ot where
  kd : Int
  nd : Int
  pa : Int
  rf : Int
  ty : Int
  ns : Int
  nm : ByteArray
  al : List Att
  tt : ByteArray

/-- A slice: where it begins, how long it is, its room. -/
abbrev Sl := Option Addr × Nat × Nat

/-- An operation's cells, its attributes lying at p. -/
def oc (o : Ot) (p : Sl) : Array Value := #[.int .i64 o.kd, .int .i64 o.nd, .int .i64 o.pa, .int .i64 o.rf, .int .i64 o.ty, .int .i64 o.ns, .string o.nm, .slice p.1 p.2.1 p.2.2, .string o.tt]
/-- As a value. -/
def ov (o : Ot) (p : Sl) : Value := .agg #[.int .i64 o.kd, .int .i64 o.nd, .int .i64 o.pa, .int .i64 o.rf, .int .i64 o.ty, .int .i64 o.ns, .string o.nm, .slice p.1 p.2.1 p.2.2, .string o.tt]

/-- No text. -/
def e0 : ByteArray := ⟨#[]⟩

/-- The same? -/
def sameO (a b : Ot) : Bool := (a.kd == b.kd) && ((a.nd == b.nd) && ((a.pa == b.pa) && ((a.rf == b.rf) && ((a.ty == b.ty) && ((a.ns == b.ns) && (eqs a.nm b.nm && (eqs a.tt b.tt && same a.al b.al)))))))

/-- May a node have that number? -/
def inR (n : Int) : Bool := decide (0 ≤ n) && decide (n ≤ 2147483647)

/-- Are these nothing? -/
def zr (l : List Int) (x y : ByteArray) (q : List Att) : Bool := l.all (fun n => n == 0) && (eqs x e0 && (eqs y e0 && q.isEmpty))

/-- Can a node of that kind be made? -/
def mk3 (t : Int) : Bool := t == 2 || t == 3 || t == 5

/-- What the Kind asks. -/
def rightK (o : Ot) : Bool :=
  if o.kd = 1 then mk3 o.ty && ((o.pa == 0) && (o.rf == 0))
  else if o.kd = 2 then zr [o.rf, o.ty, o.ns] o.nm o.tt o.al
  else if o.kd = 3 ∨ o.kd = 9 then zr [o.pa, o.ty, o.ns] o.nm o.tt o.al
  else if o.kd = 4 then zr [o.ty, o.ns] o.nm o.tt o.al
  else if o.kd = 5 then zr [o.nd, o.rf, o.ty, o.ns] o.nm e0 o.al
  else if o.kd = 6 then zr [o.nd, o.ty, o.ns] o.nm e0 o.al
  else if o.kd = 7 then zr [o.pa, o.rf, o.ty, o.ns] o.nm o.tt o.al
  else if o.kd = 8 then zr [o.nd, o.ty, o.ns] o.nm o.tt o.al
  else if o.kd = 10 then zr [o.pa, o.rf, o.ty, o.ns] o.nm o.tt []
  else if o.kd = 11 then zr [o.nd, o.pa, o.rf, o.ty, o.ns] o.nm o.tt o.al
  else false

/-- Is it right? -/
def rightO (o : Ot) : Bool := (inR o.nd && (inR o.pa && inR o.rf)) && ((decide (0 ≤ o.ns) && decide (o.ns ≤ 2)) && rightK o)

/-- A Kind at all? -/
def kk (k : Int) : Bool := decide (1 ≤ k) && decide (k ≤ 11)

/-- What its Kind names alone. -/
def onlyO (o : Ot) : Ot :=
  if o.kd = 1 then ⟨o.kd, o.nd, 0, 0, o.ty, o.ns, o.nm, o.al, o.tt⟩
  else if o.kd = 2 then ⟨o.kd, o.nd, o.pa, 0, 0, 0, e0, [], e0⟩
  else if o.kd = 3 ∨ o.kd = 9 then ⟨o.kd, o.nd, 0, o.rf, 0, 0, e0, [], e0⟩
  else if o.kd = 4 then ⟨o.kd, o.nd, o.pa, o.rf, 0, 0, e0, [], e0⟩
  else if o.kd = 5 then ⟨o.kd, 0, o.pa, 0, 0, 0, e0, [], o.tt⟩
  else if o.kd = 6 then ⟨o.kd, 0, o.pa, o.rf, 0, 0, e0, [], o.tt⟩
  else if o.kd = 7 then ⟨o.kd, o.nd, 0, 0, 0, 0, e0, [], e0⟩
  else if o.kd = 8 then ⟨o.kd, 0, o.pa, o.rf, 0, 0, e0, [], e0⟩
  else if o.kd = 10 then ⟨o.kd, o.nd, 0, 0, 0, 0, e0, o.al, e0⟩
  else if o.kd = 11 then ⟨o.kd, 0, 0, 0, 0, 0, e0, [], e0⟩
  else ⟨0, 0, 0, 0, 0, 0, e0, [], e0⟩

theorem isE {l : List Att} : same l [] = l.isEmpty := by
  unfold same
  cases l <;> simp

/-- The program's judgement is the document's. -/
theorem prog_right (o : Ot) : (kk o.kd && (sameO o (onlyO o) && (inR o.nd && (inR o.pa && (inR o.rf && (decide (0 ≤ o.ns) && (decide (o.ns ≤ 2) && (o.kd != 1 || mk3 o.ty)))))))) = rightO o := by
  obtain ⟨k, a2, a3, a4, a5, a6, a7, a8, a9⟩ := o
  have z0 : inR 0 = true := by decide
  have z1 : ∀ x, eqs x x = true := eqs_refl
  have z2 : ∀ l : List Att, same l l = true := fun l => same_yes rfl
  by_cases hk : 1 ≤ k ∧ k ≤ 11
  · obtain rfl | rfl | rfl | rfl | rfl | rfl | rfl | rfl | rfl | rfl | rfl : k = 1 ∨ k = 2 ∨ k = 3 ∨ k = 4 ∨ k = 5 ∨ k = 6 ∨ k = 7 ∨ k = 8 ∨ k = 9 ∨ k = 10 ∨ k = 11 := by omega
    all_goals
      simp only [kk, onlyO, sameO, rightO, rightK, zr, isE, z1, z2, List.all_cons, List.all_nil]
      simp [isE]
      try (rw [Bool.eq_iff_iff]; simp only [Bool.and_eq_true, Bool.or_eq_true, beq_iff_eq, decide_eq_true_eq]; constructor <;> intro h <;> simp_all)
  · have h1 : kk k = false := by
      unfold kk
      simp [isE]
      omega
    have h2 : rightK ⟨k, a2, a3, a4, a5, a6, a7, a8, a9⟩ = false := by
      unfold rightK
      simp only
      repeat rw [if_neg (by omega)]
    simp only [rightO, h1, h2]
    simp

end Go.Proofs.Ytpkppobkagdhkaa
