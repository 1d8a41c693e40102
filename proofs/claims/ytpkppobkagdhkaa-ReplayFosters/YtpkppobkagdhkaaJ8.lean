/-
  Joined: Same Trees.
-/
import Derived.Test.YtpkppobkagdhkaaJ7
import Derived.Test.YtpkppobkagdhkaaJ3

/-
  Same, of the program, of the document and of the book.
-/
namespace Go.Proofs.Ytpkppobkagdhkaa
open Go.RowKit

/-- Two attributes are the same, or parted by their names, or by their values. -/
theorem parted (x y : Att) : (x = y ∧ x.1.toList = y.1.toList ∧ x.2.toList = y.2.toList) ∨ (x ≠ y ∧ ¬ x.1.toList = y.1.toList) ∨ (x ≠ y ∧ x.1.toList = y.1.toList ∧ ¬ x.2.toList = y.2.toList) := by
  by_cases h1 : x.1 = y.1
  · by_cases h2 : x.2 = y.2
    · exact Or.inl ⟨Prod.ext h1 h2, by rw [h1], by rw [h2]⟩
    · refine Or.inr (Or.inr ⟨fun h => h2 (by rw [h]), by rw [h1], fun h => h2 (eqs_iff.1 ?_)⟩)
      unfold eqs
      rw [h]
      simp
  · refine Or.inr (Or.inl ⟨fun h => h1 (by rw [h]), fun h => h1 (eqs_iff.1 ?_)⟩)
    unfold eqs
    rw [h]
    simp

/-- The same, in order? -/
def same (l m : List Att) : Bool := decide (l = m)

theorem same_not {l m : List Att} (h : l ≠ m) : same l m = false := decide_eq_false h
theorem same_yes {l m : List Att} (h : l = m) : same l m = true := decide_eq_true h

theorem take_eq {l m : List Att} {k : Nat} (h1 : k < l.length) (h2 : k < m.length) (h : l.take k = m.take k) (e : l[k] = m[k]) : l.take (k + 1) = m.take (k + 1) := by
  rw [take_snoc h1, take_snoc h2, h, e]


end Go.Proofs.Ytpkppobkagdhkaa

/-
  Trees by themselves: rows of nodes, each with a row of kids: no program.
-/
namespace Go.Proofs.Ytpkppobkagdhkaa
set_option linter.unusedVariables false

/-- What a node has by itself: Kind, NS, Name, Attrs, Text. -/
abbrev Lb := Int × Int × ByteArray × List Att × ByteArray
abbrev Lb.kind (l : Lb) : Int := l.1
abbrev Lb.ns (l : Lb) : Int := l.2.1
abbrev Lb.name (l : Lb) : ByteArray := l.2.2.1
abbrev Lb.attrs (l : Lb) : List Att := l.2.2.2.1
abbrev Lb.text (l : Lb) : ByteArray := l.2.2.2.2

/-- A row of nodes: empty, or a node, its kids, and the rest of the row. -/
structure Fo where
  yes : Bool
  lb : yes = true → Lb
  kids : yes = true → Fo
  rest : yes = true → Fo

namespace Fo

def nil : Fo := ⟨false, fun h => absurd h Bool.false_ne_true, fun h => absurd h Bool.false_ne_true, fun h => absurd h Bool.false_ne_true⟩
def cons (l : Lb) (k r : Fo) : Fo := ⟨true, fun _ => l, fun _ => k, fun _ => r⟩

theorem ind {P : Fo → Prop} (h0 : P nil) (h1 : ∀ l k r, P k → P r → P (cons l k r)) : ∀ f, P f
  | ⟨false, l, k, r⟩ => by
    have e : (⟨false, l, k, r⟩ : Fo) = nil := by
      unfold nil
      congr 1 <;> funext h <;> exact absurd h Bool.false_ne_true
    rw [e]; exact h0
  | ⟨true, l, k, r⟩ => h1 (l rfl) (k rfl) (r rfl) (ind h0 h1 (k rfl)) (ind h0 h1 (r rfl))

theorem cases {P : Fo → Prop} (f : Fo) (h0 : P nil) (h1 : ∀ l k r, P (cons l k r)) : P f := ind h0 (fun l k r _ _ => h1 l k r) f

/-- How many in the row. -/
def len : Fo → Nat
  | ⟨false, _, _, _⟩ => 0
  | ⟨true, _, _, r⟩ => (r rfl).len + 1
theorem len_nil : nil.len = 0 := rfl
theorem len_cons (l : Lb) (k r : Fo) : (cons l k r).len = r.len + 1 := rfl
attribute [simp] len_nil len_cons

/-- How many nodes in all. -/
def cnt : Fo → Nat
  | ⟨false, _, _, _⟩ => 0
  | ⟨true, _, k, r⟩ => 1 + (k rfl).cnt + (r rfl).cnt
theorem cnt_nil : nil.cnt = 0 := rfl
theorem cnt_cons (l : Lb) (k r : Fo) : (cons l k r).cnt = 1 + k.cnt + r.cnt := rfl
attribute [simp] cnt_nil cnt_cons

/-- How deep. -/
def dep : Fo → Nat
  | ⟨false, _, _, _⟩ => 0
  | ⟨true, _, k, r⟩ => max ((k rfl).dep + 1) (r rfl).dep
theorem dep_nil : nil.dep = 0 := rfl
theorem dep_cons (l : Lb) (k r : Fo) : (cons l k r).dep = max (k.dep + 1) r.dep := rfl
attribute [simp] dep_nil dep_cons

/-- One row behind another. -/
def app : Fo → Fo → Fo
  | ⟨false, _, _, _⟩, g => g
  | ⟨true, l, k, r⟩, g => cons (l rfl) (k rfl) ((r rfl).app g)
theorem app_nil (g : Fo) : nil.app g = g := rfl
theorem app_cons (l : Lb) (k r g : Fo) : (cons l k r).app g = cons l k (r.app g) := rfl
attribute [simp] app_nil app_cons

theorem len_app (f g : Fo) : (f.app g).len = f.len + g.len := by
  refine ind (P := fun f => (f.app g).len = f.len + g.len) (by simp) (fun l k r _ hr => ?_) f
  simp only [app_cons, len_cons, hr]; omega

theorem len_zero {f : Fo} : f.len = 0 ↔ f = nil := by
  refine cases (P := fun f => f.len = 0 ↔ f = nil) f ⟨fun _ => rfl, fun _ => rfl⟩ (fun l k r => ⟨fun h => ?_, fun h => ?_⟩)
  · simp at h
  · have := congrArg len h; simp at this

/-- What stands behind the first n. -/
def drop : Nat → Fo → Fo
  | 0, f => f
  | _ + 1, ⟨false, _, _, _⟩ => nil
  | n + 1, ⟨true, _, _, r⟩ => (r rfl).drop n
theorem drop_zero (f : Fo) : f.drop 0 = f := by unfold drop; rfl
theorem drop_nil (n : Nat) : nil.drop n = nil := by cases n <;> rfl
theorem drop_cons (n : Nat) (l : Lb) (k r : Fo) : (cons l k r).drop (n + 1) = r.drop n := rfl
attribute [simp] drop_zero drop_nil drop_cons

/-- The first n. -/
def take : Nat → Fo → Fo
  | 0, _ => nil
  | _ + 1, ⟨false, _, _, _⟩ => nil
  | n + 1, ⟨true, l, k, r⟩ => cons (l rfl) (k rfl) ((r rfl).take n)
theorem take_zero (f : Fo) : f.take 0 = nil := by unfold take; rfl
theorem take_nil (n : Nat) : nil.take n = nil := by cases n <;> rfl
theorem take_cons (n : Nat) (l : Lb) (k r : Fo) : (cons l k r).take (n + 1) = cons l k (r.take n) := rfl
attribute [simp] take_zero take_nil take_cons

theorem len_drop (n : Nat) (f : Fo) : (f.drop n).len = f.len - n := by
  induction n generalizing f with
  | zero => simp
  | succ n ih => exact cases (P := fun f => (f.drop (n + 1)).len = f.len - (n + 1)) f (by simp) (fun l k r => by simp only [drop_cons, len_cons, ih]; omega)

/-- A node stands at each place of the row. -/
theorem at_lt {n : Nat} {f : Fo} (h : n < f.len) : ∃ l k, f.drop n = cons l k (f.drop (n + 1)) := by
  induction n generalizing f with
  | zero =>
    revert h
    exact cases (P := fun f => 0 < f.len → ∃ l k, f.drop 0 = cons l k (f.drop (0 + 1))) f (fun h => absurd h (by simp)) (fun l k r _ => ⟨l, k, by simp⟩)
  | succ n ih =>
    revert h
    exact cases (P := fun f => n + 1 < f.len → ∃ l k, f.drop (n + 1) = cons l k (f.drop (n + 1 + 1))) f (fun h => absurd h (by simp)) (fun l k r h => by
      obtain ⟨l', k', e⟩ := ih (f := r) (by simpa using h)
      exact ⟨l', k', by rw [drop_cons, drop_cons]; exact e⟩)

/-- What holds of each node of the row. -/
def All (C : Lb → Fo → Prop) : Fo → Prop
  | ⟨false, _, _, _⟩ => True
  | ⟨true, l, k, r⟩ => C (l rfl) (k rfl) ∧ (r rfl).All C
theorem all_nil (C : Lb → Fo → Prop) : nil.All C := trivial
theorem all_cons (C : Lb → Fo → Prop) (l : Lb) (k r : Fo) : (cons l k r).All C ↔ C l k ∧ r.All C := Iff.rfl
attribute [simp] all_cons

/-- What goes up from a node's kids to the node holds of every node. -/
theorem all_up {C : Lb → Fo → Prop} (h : ∀ l k, k.All C → C l k) (f : Fo) : f.All C :=
  ind (P := fun f => f.All C) (all_nil C) (fun l k r hk hr => (all_cons ..).2 ⟨h l k hk, hr⟩) f

theorem up {C : Lb → Fo → Prop} (h : ∀ l k, k.All C → C l k) (l : Lb) (k : Fo) : C l k := h l k (all_up h k)

/-- The texts of the nodes that are told, in order. -/
def fold (g : Lb → ByteArray) : Fo → ByteArray
  | ⟨false, _, _, _⟩ => ⟨#[]⟩
  | ⟨true, l, k, r⟩ => g (l rfl) ++ (k rfl).fold g ++ (r rfl).fold g
theorem fold_nil (g : Lb → ByteArray) : nil.fold g = ⟨#[]⟩ := rfl
theorem fold_cons (g : Lb → ByteArray) (l : Lb) (k r : Fo) : (cons l k r).fold g = g l ++ k.fold g ++ r.fold g := rfl
attribute [simp] fold_nil fold_cons

/-- A line for each node, with so much ahead of it. -/
def show_ (g : Lb → ByteArray) : Fo → ByteArray → ByteArray
  | ⟨false, _, _, _⟩, _ => ⟨#[]⟩
  | ⟨true, l, k, r⟩, a => a ++ g (l rfl) ++ ⟨#[10]⟩ ++ (k rfl).show_ g (a ++ ⟨#[32, 32]⟩) ++ (r rfl).show_ g a
theorem show_nil (g : Lb → ByteArray) (a : ByteArray) : nil.show_ g a = ⟨#[]⟩ := rfl
theorem show_cons (g : Lb → ByteArray) (a : ByteArray) (l : Lb) (k r : Fo) : (cons l k r).show_ g a = a ++ g l ++ ⟨#[10]⟩ ++ k.show_ g (a ++ ⟨#[32, 32]⟩) ++ r.show_ g a := rfl
attribute [simp] show_nil show_cons

/-- The same nodes, in the same order. -/
def same (q : Lb → Lb → Bool) : Fo → Fo → Bool
  | ⟨false, _, _, _⟩, ⟨false, _, _, _⟩ => true
  | ⟨true, l, k, r⟩, ⟨true, l', k', r'⟩ => q (l rfl) (l' rfl) && (k rfl).same q (k' rfl) && (r rfl).same q (r' rfl)
  | _, _ => false
theorem same_nil (q : Lb → Lb → Bool) : nil.same q nil = true := rfl
theorem same_cons (q : Lb → Lb → Bool) (l l' : Lb) (k k' r r' : Fo) : (cons l k r).same q (cons l' k' r') = (q l l' && k.same q k' && r.same q r') := rfl
theorem same_nc (q : Lb → Lb → Bool) (l : Lb) (k r : Fo) : nil.same q (cons l k r) = false := rfl
theorem same_cn (q : Lb → Lb → Bool) (l : Lb) (k r : Fo) : (cons l k r).same q nil = false := rfl
attribute [simp] same_nil same_cons same_nc same_cn

/-- A node's kids turned, at one place of the row. -/
def turn (g : Fo → Fo) : Nat → Fo → Fo
  | _, ⟨false, _, _, _⟩ => nil
  | 0, ⟨true, l, k, r⟩ => cons (l rfl) (g (k rfl)) (r rfl)
  | n + 1, ⟨true, l, k, r⟩ => cons (l rfl) (k rfl) ((r rfl).turn g n)
theorem turn_zero (g : Fo → Fo) (l : Lb) (k r : Fo) : (cons l k r).turn g 0 = cons l (g k) r := rfl
theorem turn_succ (g : Fo → Fo) (n : Nat) (l : Lb) (k r : Fo) : (cons l k r).turn g (n + 1) = cons l k (r.turn g n) := rfl
attribute [simp] turn_zero turn_succ

theorem len_turn (g : Fo → Fo) (n : Nat) (f : Fo) : (f.turn g n).len = f.len := by
  induction n generalizing f with
  | zero => exact cases (P := fun f => (f.turn g 0).len = f.len) f rfl (fun l k r => rfl)
  | succ n ih => exact cases (P := fun f => (f.turn g (n + 1)).len = f.len) f rfl (fun l k r => by rw [turn_succ, len_cons, len_cons, ih])

/-- The kids of the node at a place of the row. -/
def under (f : Fo) (n : Nat) : Fo := match f.drop n with
  | ⟨false, _, _, _⟩ => nil
  | ⟨true, _, k, _⟩ => k rfl

theorem under_of {f : Fo} {n : Nat} {l : Lb} {k r : Fo} (e : f.drop n = cons l k r) : f.under n = k := by
  unfold under
  rw [e]; rfl

theorem drop_turn (g : Fo → Fo) {n : Nat} {f : Fo} {l : Lb} {k r : Fo} (e : f.drop n = cons l k r) : (f.turn g n).drop n = cons l (g k) r := by
  induction n generalizing f with
  | zero => rw [drop_zero] at e; subst e; rfl
  | succ n ih =>
    revert e
    exact cases (P := fun f => f.drop (n + 1) = cons l k r → (f.turn g (n + 1)).drop (n + 1) = cons l (g k) r) f (fun h => by have := congrArg len h; simp at this) (fun l' k' r' h => by
      rw [drop_cons] at h
      rw [turn_succ, drop_cons, ih h])

/-- What holds of each label of all nodes. -/
def Each (P : Lb → Prop) : Fo → Prop
  | ⟨false, _, _, _⟩ => True
  | ⟨true, l, k, r⟩ => P (l rfl) ∧ (k rfl).Each P ∧ (r rfl).Each P
theorem none_cat (s : ByteArray) : (⟨#[]⟩ : ByteArray) ++ s = s := ByteArray.empty_append

end Fo

end Go.Proofs.Ytpkppobkagdhkaa
