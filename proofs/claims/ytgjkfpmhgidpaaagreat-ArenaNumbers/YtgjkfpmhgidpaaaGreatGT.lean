/-
  Joined: Trees Woods Grown Lots LotsB LotsC Chain LotsD Okt Cnt.
-/
import Derived.Test.YtgjkfpmhgidpaaaGreatGC
import Derived.Test.YtgjkfpmhgidpaaaGreatGA

/-
  Trees by themselves: rows of nodes, each with a row of kids: no program.
-/
namespace Go.Proofs.YtgjkfpmhgidpaaaGreat
set_option linter.unusedVariables false

/-- What a node has by itself: Kind, NS, Name, Attrs, Text. -/
abbrev Lb := Int × Int × ByteArray × List Att × ByteArray
abbrev Lb.kind (l : Lb) : Int := l.1
abbrev Lb.ns (l : Lb) : Int := l.2.1
abbrev Lb.name (l : Lb) : ByteArray := l.2.2.1
abbrev Lb.attrs (l : Lb) : List Att := l.2.2.2.1
abbrev Lb.text (l : Lb) : ByteArray := l.2.2.2.2

/-- A row of nodes: empty, or a node, its kids, and the rest of the row. -/
structure Fo where
  yes : Bool
  lb : yes = true → Lb
  kids : yes = true → Fo
  rest : yes = true → Fo

namespace Fo

def nil : Fo := ⟨false, fun h => absurd h Bool.false_ne_true, fun h => absurd h Bool.false_ne_true, fun h => absurd h Bool.false_ne_true⟩
def cons (l : Lb) (k r : Fo) : Fo := ⟨true, fun _ => l, fun _ => k, fun _ => r⟩

theorem ind {P : Fo → Prop} (h0 : P nil) (h1 : ∀ l k r, P k → P r → P (cons l k r)) : ∀ f, P f
  | ⟨false, l, k, r⟩ => by
    have e : (⟨false, l, k, r⟩ : Fo) = nil := by
      unfold nil
      congr 1 <;> funext h <;> exact absurd h Bool.false_ne_true
    rw [e]; exact h0
  | ⟨true, l, k, r⟩ => h1 (l rfl) (k rfl) (r rfl) (ind h0 h1 (k rfl)) (ind h0 h1 (r rfl))

theorem cases {P : Fo → Prop} (f : Fo) (h0 : P nil) (h1 : ∀ l k r, P (cons l k r)) : P f := ind h0 (fun l k r _ _ => h1 l k r) f

/-- How many in the row. -/
def len : Fo → Nat
  | ⟨false, _, _, _⟩ => 0
  | ⟨true, _, _, r⟩ => (r rfl).len + 1
theorem len_nil : nil.len = 0 := rfl
theorem len_cons (l : Lb) (k r : Fo) : (cons l k r).len = r.len + 1 := rfl
attribute [simp] len_nil len_cons

/-- How many nodes in all. -/
def cnt : Fo → Nat
  | ⟨false, _, _, _⟩ => 0
  | ⟨true, _, k, r⟩ => 1 + (k rfl).cnt + (r rfl).cnt
theorem cnt_nil : nil.cnt = 0 := rfl
theorem cnt_cons (l : Lb) (k r : Fo) : (cons l k r).cnt = 1 + k.cnt + r.cnt := rfl
attribute [simp] cnt_nil cnt_cons

/-- How deep. -/
def dep : Fo → Nat
  | ⟨false, _, _, _⟩ => 0
  | ⟨true, _, k, r⟩ => max ((k rfl).dep + 1) (r rfl).dep
theorem dep_nil : nil.dep = 0 := rfl
theorem dep_cons (l : Lb) (k r : Fo) : (cons l k r).dep = max (k.dep + 1) r.dep := rfl
attribute [simp] dep_nil dep_cons

/-- One row behind another. -/
def app : Fo → Fo → Fo
  | ⟨false, _, _, _⟩, g => g
  | ⟨true, l, k, r⟩, g => cons (l rfl) (k rfl) ((r rfl).app g)
theorem app_nil (g : Fo) : nil.app g = g := rfl
theorem app_cons (l : Lb) (k r g : Fo) : (cons l k r).app g = cons l k (r.app g) := rfl
attribute [simp] app_nil app_cons

theorem app_nil' (f : Fo) : f.app nil = f := by
  refine ind (P := fun f => f.app nil = f) rfl (fun l k r _ hr => ?_) f
  rw [app_cons, hr]

theorem app_assoc (f g h : Fo) : (f.app g).app h = f.app (g.app h) := by
  refine ind (P := fun f => (f.app g).app h = f.app (g.app h)) rfl (fun l k r _ hr => ?_) f
  simp only [app_cons, hr]

theorem len_app (f g : Fo) : (f.app g).len = f.len + g.len := by
  refine ind (P := fun f => (f.app g).len = f.len + g.len) (by simp) (fun l k r _ hr => ?_) f
  simp only [app_cons, len_cons, hr]; omega

theorem cnt_app (f g : Fo) : (f.app g).cnt = f.cnt + g.cnt := by
  refine ind (P := fun f => (f.app g).cnt = f.cnt + g.cnt) (by simp) (fun l k r _ hr => ?_) f
  simp only [app_cons, cnt_cons, hr]; omega

theorem dep_app (f g : Fo) : (f.app g).dep = max f.dep g.dep := by
  refine ind (P := fun f => (f.app g).dep = max f.dep g.dep) (by simp) (fun l k r _ hr => ?_) f
  simp only [app_cons, dep_cons, hr]; omega

theorem len_le_cnt (f : Fo) : f.len ≤ f.cnt := by
  refine ind (P := fun f => f.len ≤ f.cnt) (Nat.le_refl _) (fun l k r _ hr => ?_) f
  simp only [len_cons, cnt_cons]; omega

theorem dep_le_cnt (f : Fo) : f.dep ≤ f.cnt := by
  refine ind (P := fun f => f.dep ≤ f.cnt) (Nat.le_refl _) (fun l k r hk hr => ?_) f
  simp only [dep_cons, cnt_cons]; omega

theorem len_zero {f : Fo} : f.len = 0 ↔ f = nil := by
  refine cases (P := fun f => f.len = 0 ↔ f = nil) f ⟨fun _ => rfl, fun _ => rfl⟩ (fun l k r => ⟨fun h => ?_, fun h => ?_⟩)
  · simp at h
  · have := congrArg len h; simp at this

/-- What stands behind the first n. -/
def drop : Nat → Fo → Fo
  | 0, f => f
  | _ + 1, ⟨false, _, _, _⟩ => nil
  | n + 1, ⟨true, _, _, r⟩ => (r rfl).drop n
theorem drop_zero (f : Fo) : f.drop 0 = f := by unfold drop; rfl
theorem drop_nil (n : Nat) : nil.drop n = nil := by cases n <;> rfl
theorem drop_cons (n : Nat) (l : Lb) (k r : Fo) : (cons l k r).drop (n + 1) = r.drop n := rfl
attribute [simp] drop_zero drop_nil drop_cons

/-- The first n. -/
def take : Nat → Fo → Fo
  | 0, _ => nil
  | _ + 1, ⟨false, _, _, _⟩ => nil
  | n + 1, ⟨true, l, k, r⟩ => cons (l rfl) (k rfl) ((r rfl).take n)
theorem take_zero (f : Fo) : f.take 0 = nil := by unfold take; rfl
theorem take_nil (n : Nat) : nil.take n = nil := by cases n <;> rfl
theorem take_cons (n : Nat) (l : Lb) (k r : Fo) : (cons l k r).take (n + 1) = cons l k (r.take n) := rfl
attribute [simp] take_zero take_nil take_cons

theorem take_drop (n : Nat) (f : Fo) : (f.take n).app (f.drop n) = f := by
  induction n generalizing f with
  | zero => simp
  | succ n ih => exact cases (P := fun f => (f.take (n + 1)).app (f.drop (n + 1)) = f) f rfl (fun l k r => by simp only [take_cons, drop_cons, app_cons, ih])

theorem len_drop (n : Nat) (f : Fo) : (f.drop n).len = f.len - n := by
  induction n generalizing f with
  | zero => simp
  | succ n ih => exact cases (P := fun f => (f.drop (n + 1)).len = f.len - (n + 1)) f (by simp) (fun l k r => by simp only [drop_cons, len_cons, ih]; omega)

/-- A node stands at each place of the row. -/
theorem at_lt {n : Nat} {f : Fo} (h : n < f.len) : ∃ l k, f.drop n = cons l k (f.drop (n + 1)) := by
  induction n generalizing f with
  | zero =>
    revert h
    exact cases (P := fun f => 0 < f.len → ∃ l k, f.drop 0 = cons l k (f.drop (0 + 1))) f (fun h => absurd h (by simp)) (fun l k r _ => ⟨l, k, by simp⟩)
  | succ n ih =>
    revert h
    exact cases (P := fun f => n + 1 < f.len → ∃ l k, f.drop (n + 1) = cons l k (f.drop (n + 1 + 1))) f (fun h => absurd h (by simp)) (fun l k r h => by
      obtain ⟨l', k', e⟩ := ih (f := r) (by simpa using h)
      exact ⟨l', k', by rw [drop_cons, drop_cons]; exact e⟩)

theorem take_succ {n : Nat} {f : Fo} {l : Lb} {k : Fo} (e : f.drop n = cons l k (f.drop (n + 1))) : f.take (n + 1) = (f.take n).app (cons l k nil) := by
  induction n generalizing f with
  | zero =>
    revert e
    exact cases (P := fun f => f.drop 0 = cons l k (f.drop (0 + 1)) → f.take (0 + 1) = (f.take 0).app (cons l k nil)) f (fun h => by have := congrArg len h; simp at this) (fun l' k' r h => by
      simp only [drop_zero] at h
      unfold cons at h
      simp only [mk.injEq, heq_eq_eq, true_and] at h
      have h1 := congrFun h.1 rfl
      have h2 := congrFun h.2.1 rfl
      subst h1; subst h2
      simp)
  | succ n ih =>
    revert e
    exact cases (P := fun f => f.drop (n + 1) = cons l k (f.drop (n + 1 + 1)) → f.take (n + 1 + 1) = (f.take (n + 1)).app (cons l k nil)) f (fun h => by have := congrArg len h; simp at this) (fun l' k' r h => by
      rw [drop_cons, drop_cons] at h
      rw [take_cons, take_cons, app_cons, ih h])

/-- What holds of each node of the row. -/
def All (C : Lb → Fo → Prop) : Fo → Prop
  | ⟨false, _, _, _⟩ => True
  | ⟨true, l, k, r⟩ => C (l rfl) (k rfl) ∧ (r rfl).All C
theorem all_nil (C : Lb → Fo → Prop) : nil.All C := trivial
theorem all_cons (C : Lb → Fo → Prop) (l : Lb) (k r : Fo) : (cons l k r).All C ↔ C l k ∧ r.All C := Iff.rfl
attribute [simp] all_cons

theorem all_drop {C : Lb → Fo → Prop} (n : Nat) {f : Fo} (h : f.All C) : (f.drop n).All C := by
  induction n generalizing f with
  | zero => simpa using h
  | succ n ih =>
    revert h
    exact cases (P := fun f => f.All C → (f.drop (n + 1)).All C) f (fun _ => all_nil C) (fun l k r h => ih ((all_cons ..).1 h).2)

/-- What goes up from a node's kids to the node holds of every node. -/
theorem all_up {C : Lb → Fo → Prop} (h : ∀ l k, k.All C → C l k) (f : Fo) : f.All C :=
  ind (P := fun f => f.All C) (all_nil C) (fun l k r hk hr => (all_cons ..).2 ⟨h l k hk, hr⟩) f

theorem up {C : Lb → Fo → Prop} (h : ∀ l k, k.All C → C l k) (l : Lb) (k : Fo) : C l k := h l k (all_up h k)

/-- The texts of the nodes that are told, in order. -/
def fold (g : Lb → ByteArray) : Fo → ByteArray
  | ⟨false, _, _, _⟩ => ⟨#[]⟩
  | ⟨true, l, k, r⟩ => g (l rfl) ++ (k rfl).fold g ++ (r rfl).fold g
theorem fold_nil (g : Lb → ByteArray) : nil.fold g = ⟨#[]⟩ := rfl
theorem fold_cons (g : Lb → ByteArray) (l : Lb) (k r : Fo) : (cons l k r).fold g = g l ++ k.fold g ++ r.fold g := rfl
attribute [simp] fold_nil fold_cons

/-- A line for each node, with so much ahead of it. -/
def show_ (g : Lb → ByteArray) : Fo → ByteArray → ByteArray
  | ⟨false, _, _, _⟩, _ => ⟨#[]⟩
  | ⟨true, l, k, r⟩, a => a ++ g (l rfl) ++ ⟨#[10]⟩ ++ (k rfl).show_ g (a ++ ⟨#[32, 32]⟩) ++ (r rfl).show_ g a
theorem show_nil (g : Lb → ByteArray) (a : ByteArray) : nil.show_ g a = ⟨#[]⟩ := rfl
theorem show_cons (g : Lb → ByteArray) (a : ByteArray) (l : Lb) (k r : Fo) : (cons l k r).show_ g a = a ++ g l ++ ⟨#[10]⟩ ++ k.show_ g (a ++ ⟨#[32, 32]⟩) ++ r.show_ g a := rfl
attribute [simp] show_nil show_cons

/-- The same nodes, in the same order. -/
def same (q : Lb → Lb → Bool) : Fo → Fo → Bool
  | ⟨false, _, _, _⟩, ⟨false, _, _, _⟩ => true
  | ⟨true, l, k, r⟩, ⟨true, l', k', r'⟩ => q (l rfl) (l' rfl) && (k rfl).same q (k' rfl) && (r rfl).same q (r' rfl)
  | _, _ => false
theorem same_nil (q : Lb → Lb → Bool) : nil.same q nil = true := rfl
theorem same_cons (q : Lb → Lb → Bool) (l l' : Lb) (k k' r r' : Fo) : (cons l k r).same q (cons l' k' r') = (q l l' && k.same q k' && r.same q r') := rfl
theorem same_nc (q : Lb → Lb → Bool) (l : Lb) (k r : Fo) : nil.same q (cons l k r) = false := rfl
theorem same_cn (q : Lb → Lb → Bool) (l : Lb) (k r : Fo) : (cons l k r).same q nil = false := rfl
attribute [simp] same_nil same_cons same_nc same_cn

theorem same_eq {q : Lb → Lb → Bool} (hq : ∀ a b, q a b = true ↔ a = b) {f : Fo} : ∀ g, f.same q g = true ↔ f = g := by
  refine ind (P := fun f => ∀ g, f.same q g = true ↔ f = g) (fun g => ?_) (fun l k r hk hr g => ?_) f
  · exact cases (P := fun g => nil.same q g = true ↔ nil = g) g (by simp) (fun l k r => ⟨fun h => by simp at h, fun h => by have := congrArg len h; simp at this⟩)
  · refine cases (P := fun g => (cons l k r).same q g = true ↔ cons l k r = g) g ⟨fun h => by simp at h, fun h => by have := congrArg len h; simp at this⟩ (fun l' k' r' => ?_)
    simp only [same_cons, Bool.and_eq_true, hq, hk, hr]
    constructor
    · rintro ⟨⟨rfl, rfl⟩, rfl⟩; rfl
    · intro h
      unfold cons at h
      simp only [mk.injEq, heq_eq_eq, true_and] at h
      exact ⟨⟨congrFun h.1 rfl, congrFun h.2.1 rfl⟩, congrFun h.2.2 rfl⟩

/-- A node's kids turned, at one place of the row. -/
def turn (g : Fo → Fo) : Nat → Fo → Fo
  | _, ⟨false, _, _, _⟩ => nil
  | 0, ⟨true, l, k, r⟩ => cons (l rfl) (g (k rfl)) (r rfl)
  | n + 1, ⟨true, l, k, r⟩ => cons (l rfl) (k rfl) ((r rfl).turn g n)
theorem turn_zero (g : Fo → Fo) (l : Lb) (k r : Fo) : (cons l k r).turn g 0 = cons l (g k) r := rfl
theorem turn_succ (g : Fo → Fo) (n : Nat) (l : Lb) (k r : Fo) : (cons l k r).turn g (n + 1) = cons l k (r.turn g n) := rfl
attribute [simp] turn_zero turn_succ

theorem len_turn (g : Fo → Fo) (n : Nat) (f : Fo) : (f.turn g n).len = f.len := by
  induction n generalizing f with
  | zero => exact cases (P := fun f => (f.turn g 0).len = f.len) f rfl (fun l k r => rfl)
  | succ n ih => exact cases (P := fun f => (f.turn g (n + 1)).len = f.len) f rfl (fun l k r => by rw [turn_succ, len_cons, len_cons, ih])

/-- The kids of the node at a place of the row. -/
def under (f : Fo) (n : Nat) : Fo := match f.drop n with
  | ⟨false, _, _, _⟩ => nil
  | ⟨true, _, k, _⟩ => k rfl

theorem under_of {f : Fo} {n : Nat} {l : Lb} {k r : Fo} (e : f.drop n = cons l k r) : f.under n = k := by
  unfold under
  rw [e]; rfl

theorem drop_turn (g : Fo → Fo) {n : Nat} {f : Fo} {l : Lb} {k r : Fo} (e : f.drop n = cons l k r) : (f.turn g n).drop n = cons l (g k) r := by
  induction n generalizing f with
  | zero => rw [drop_zero] at e; subst e; rfl
  | succ n ih =>
    revert e
    exact cases (P := fun f => f.drop (n + 1) = cons l k r → (f.turn g (n + 1)).drop (n + 1) = cons l (g k) r) f (fun h => by have := congrArg len h; simp at this) (fun l' k' r' h => by
      rw [drop_cons] at h
      rw [turn_succ, drop_cons, ih h])

theorem cnt_turn (g : Fo → Fo) {n : Nat} {f : Fo} {l : Lb} {k r : Fo} (e : f.drop n = cons l k r) : (f.turn g n).cnt + k.cnt = f.cnt + (g k).cnt := by
  induction n generalizing f with
  | zero => rw [drop_zero] at e; subst e; simp only [turn_zero, cnt_cons]; omega
  | succ n ih =>
    revert e
    exact cases (P := fun f => f.drop (n + 1) = cons l k r → (f.turn g (n + 1)).cnt + k.cnt = f.cnt + (g k).cnt) f (fun h => by have := congrArg len h; simp at this) (fun l' k' r' h => by
      rw [drop_cons] at h
      have := ih h
      simp only [turn_succ, cnt_cons]; omega)

/-- What holds of each label of all nodes. -/
def Each (P : Lb → Prop) : Fo → Prop
  | ⟨false, _, _, _⟩ => True
  | ⟨true, l, k, r⟩ => P (l rfl) ∧ (k rfl).Each P ∧ (r rfl).Each P
theorem each_nil (P : Lb → Prop) : nil.Each P := trivial
theorem each_cons (P : Lb → Prop) (l : Lb) (k r : Fo) : (cons l k r).Each P ↔ P l ∧ k.Each P ∧ r.Each P := Iff.rfl

theorem each_app {P : Lb → Prop} {f g : Fo} (hf : f.Each P) (hg : g.Each P) : (f.app g).Each P := by
  revert hf
  exact ind (P := fun f => f.Each P → (f.app g).Each P) (fun _ => hg) (fun l k r _ hr h => ⟨h.1, h.2.1, hr h.2.2⟩) f

theorem each_turn {P : Lb → Prop} {g : Fo → Fo} {n : Nat} {f : Fo} (hf : f.Each P) (hg : (f.under n).Each P → (g (f.under n)).Each P) : (f.turn g n).Each P := by
  induction n generalizing f with
  | zero =>
    revert hf hg
    exact cases (P := fun f => f.Each P → ((f.under 0).Each P → (g (f.under 0)).Each P) → (f.turn g 0).Each P) f (fun _ _ => trivial) (fun l k r h hg => ⟨h.1, by
      have e : (cons l k r).under 0 = k := under_of (drop_zero _)
      rw [e] at hg
      exact hg h.2.1, h.2.2⟩)
  | succ n ih =>
    revert hf hg
    exact cases (P := fun f => f.Each P → ((f.under (n + 1)).Each P → (g (f.under (n + 1))).Each P) → (f.turn g (n + 1)).Each P) f (fun _ _ => trivial) (fun l k r h hg => ⟨h.1, h.2.1, ih h.2.2 (by
      have e : (cons l k r).under (n + 1) = r.under n := rfl
      rw [e] at hg
      exact hg)⟩)

theorem each_under {P : Lb → Prop} (n : Nat) {f : Fo} (hf : f.Each P) : (f.under n).Each P := by
  induction n generalizing f with
  | zero =>
    revert hf
    exact cases (P := fun f => f.Each P → (f.under 0).Each P) f (fun _ => trivial) (fun l k r h => by
      rw [under_of (drop_zero (cons l k r))]; exact h.2.1)
  | succ n ih =>
    revert hf
    exact cases (P := fun f => f.Each P → (f.under (n + 1)).Each P) f (fun _ => trivial) (fun l k r h => ih (f := r) h.2.2)

theorem each_mono {P Q : Lb → Prop} (hq : ∀ l, P l → Q l) {f : Fo} (hf : f.Each P) : f.Each Q := by
  revert hf
  exact ind (P := fun f => f.Each P → f.Each Q) (fun _ => trivial) (fun l k r hk hr h => ⟨hq _ h.1, hk h.2.1, hr h.2.2⟩) f

theorem cat_none (s : ByteArray) : s ++ (⟨#[]⟩ : ByteArray) = s := ByteArray.append_empty
theorem none_cat (s : ByteArray) : (⟨#[]⟩ : ByteArray) ++ s = s := ByteArray.empty_append

theorem fold_app (g : Lb → ByteArray) (f h : Fo) : (f.app h).fold g = f.fold g ++ h.fold g := by
  refine ind (P := fun f => (f.app h).fold g = f.fold g ++ h.fold g) (by simp only [app_nil, fold_nil]; exact (none_cat _).symm) (fun l k r _ hr => ?_) f
  simp only [app_cons, fold_cons, hr, ByteArray.append_assoc]

theorem show_app (g : Lb → ByteArray) (f h : Fo) (a : ByteArray) : (f.app h).show_ g a = f.show_ g a ++ h.show_ g a := by
  refine ind (P := fun f => (f.app h).show_ g a = f.show_ g a ++ h.show_ g a) (by simp only [app_nil, show_nil]; exact (none_cat _).symm) (fun l k r _ hr => ?_) f
  simp only [app_cons, show_cons, hr, ByteArray.append_assoc]

/-- How many of the bytes end a line. -/
def lfs (s : ByteArray) : Nat := (s.data.toList.filter (· == 10)).length

theorem lfs_app (s t : ByteArray) : lfs (s ++ t) = lfs s + lfs t := by
  simp [lfs, ByteArray.data_append]

/-- As many lines as nodes, if no node's line has an end of one in it. -/
theorem show_lines {g : Lb → ByteArray} {f : Fo} : ∀ a, lfs a = 0 → f.Each (fun l => lfs (g l) = 0) → lfs (f.show_ g a) = f.cnt := by
  refine ind (P := fun f => ∀ a, lfs a = 0 → f.Each (fun l => lfs (g l) = 0) → lfs (f.show_ g a) = f.cnt) (fun a _ _ => rfl) (fun l k r hk hr a ha h => ?_) f
  have e : lfs (a ++ ⟨#[32, 32]⟩) = 0 := by rw [lfs_app, ha]; rfl
  have n1 : lfs ⟨#[10]⟩ = 1 := rfl
  simp only [show_cons, lfs_app, cnt_cons, ha, h.1, hk _ e h.2.1, hr _ ha h.2.2, n1, Nat.zero_add, Nat.add_zero]

end Fo

end Go.Proofs.YtgjkfpmhgidpaaaGreat

/-
  Trees as they lie in memory: a row of nodes is a slice of six cells each (Kind, NS, Name, Attrs, Text, Kids).
-/
namespace Go.Proofs.YtgjkfpmhgidpaaaGreat
open Go.RowKit
set_option linter.unusedVariables false

/-- Any block. -/
abbrev Any : Nat → Prop := fun _ => True

/-- The slice of n things of K cells each, from ao on, with room for c, reads as these cells; it lies in a block that Q lets. -/
structure Rk (Q : Nat → Prop) (K : Nat) (w : World) (ao : Option Addr) (n c : Nat) (xs : List Value) : Prop where
  len : xs.length = n * K
  cap : n ≤ c
  at' : 0 < n → ∃ b off cur e, Q b ∧ ao = some ⟨b, off, none⟩ ∧ w.heap[b]? = some (.cells cur e (0, 0)) ∧ ∀ j, j < n * K → cur[off + j]? = xs[j]?

/-- The blocks that Q lets are in w' as they were. -/
def Sm (Q : Nat → Prop) (w w' : World) : Prop := ∀ x, Q x → x < w.heap.size → w'.heap[x]? = w.heap[x]?

theorem Kp.sm {w w' : World} (k : Kp [] w w') (Q : Nat → Prop) : Sm Q w w' := fun x _ hx => k.block x hx (by simp)
theorem Kp.sms {S : List Nat} {w w' : World} (k : Kp S w w') {Q : Nat → Prop} (h : ∀ x, Q x → x ∉ S) : Sm Q w w' := fun x hq hx => k.block x hx (h x hq)

theorem Rk.keep {Q : Nat → Prop} {K : Nat} {w w' : World} {ao : Option Addr} {n c : Nat} {xs : List Value} (h : Rk Q K w ao n c xs) (hs : Sm Q w w') : Rk Q K w' ao n c xs := by
  refine ⟨h.len, h.cap, fun hn => ?_⟩
  obtain ⟨b, off, cur, e, hq, h1, h2, h3⟩ := h.at' hn
  exact ⟨b, off, cur, e, hq, h1, by rw [hs b hq (Array.getElem?_eq_some_iff.1 h2).1]; exact h2, h3⟩

theorem Rk.kept {Q : Nat → Prop} {K : Nat} {w w' : World} {ao : Option Addr} {n c : Nat} {xs : List Value} (h : Rk Q K w ao n c xs) (k : Kp [] w w') : Rk Q K w' ao n c xs := h.keep (k.sm Q)

theorem Rk.mono {Q R : Nat → Prop} {K : Nat} {w : World} {ao : Option Addr} {n c : Nat} {xs : List Value} (h : Rk Q K w ao n c xs) (hr : ∀ x, x < w.heap.size → Q x → R x) : Rk R K w ao n c xs := by
  refine ⟨h.len, h.cap, fun hn => ?_⟩
  obtain ⟨b, off, cur, e, hq, h1, h2, h3⟩ := h.at' hn
  exact ⟨b, off, cur, e, hr b (Array.getElem?_eq_some_iff.1 h2).1 hq, h1, h2, h3⟩

theorem Rk.of_own {K : Nat} {w : World} {e : TypeId} {ao : Option Addr} {n m c : Nat} {xs : List Value} {Q : Nat → Prop} (h : OwnK K w e (.slice ao n c) m xs) (hm : m = n) (hq : ∀ x, x ∈ blk (.slice ao n c) → Q x) : Rk Q K w ao n c xs := by
  subst hm
  obtain ⟨h0, h⟩ := h
  rcases h with ⟨h1, h2⟩ | ⟨g, o, cap, cur, hv, hg, h1, h2, h3, h4⟩
  · simp only [Value.slice.injEq] at h1
    obtain ⟨rfl, _, rfl⟩ := h1
    subst h2
    exact ⟨h0, Nat.le_refl _, fun hn => by omega⟩
  · simp only [Value.slice.injEq] at hv
    obtain ⟨rfl, _, rfl⟩ := hv
    exact ⟨h0, h1, fun hn => ⟨g, o, cur, e, hq g (by simp [blk]), rfl, hg, h4⟩⟩

theorem Rk.nil (Q : Nat → Prop) (K : Nat) (w : World) (ao : Option Addr) (c : Nat) : Rk Q K w ao 0 c [] := ⟨by simp, Nat.zero_le _, fun hn => by omega⟩

/-- One list of cells alone. -/
theorem Rk.det {Q R : Nat → Prop} {K : Nat} {w : World} {ao : Option Addr} {n c : Nat} {xs ys : List Value} (h : Rk Q K w ao n c xs) (k : Rk R K w ao n c ys) : xs = ys := by
  have h1 := h.len
  have h2 := k.len
  apply List.ext_getElem? 
  intro j
  by_cases hj : j < n * K
  · have hn : 0 < n := Nat.pos_of_ne_zero (fun e => by subst e; simp at hj)
    obtain ⟨b, off, cur, e, _, e1, e2, e3⟩ := h.at' hn
    obtain ⟨b', off', cur', e', _, f1, f2, f3⟩ := k.at' hn
    rw [e1] at f1
    simp only [Option.some.injEq, Addr.mk.injEq] at f1
    obtain ⟨rfl, rfl, _⟩ := f1
    rw [e2] at f2
    simp only [Option.some.injEq, Obj.cells.injEq] at f2
    obtain ⟨rfl, _⟩ := f2
    rw [← e3 j hj, ← f3 j hj]
  · rw [List.getElem?_eq_none (by omega), List.getElem?_eq_none (by omega)]

/-- The first ones. -/
theorem Rk.take {Q : Nat → Prop} {K : Nat} {w : World} {ao : Option Addr} {n c : Nat} {xs : List Value} (h : Rk Q K w ao n c xs) (k : Nat) (hk : k ≤ n) : Rk Q K w ao k c (xs.take (k * K)) := by
  have hl := h.len
  have hm := Nat.mul_le_mul_right K hk
  refine ⟨by rw [List.length_take]; omega, by have := h.cap; omega, fun hn => ?_⟩
  obtain ⟨b, off, cur, e, hq, h1, h2, h3⟩ := h.at' (by omega)
  exact ⟨b, off, cur, e, hq, h1, h2, fun j hj => by rw [h3 j (by omega), List.getElem?_take_of_lt hj]⟩

/-- It may be appended. -/
theorem Rk.src {P : Program} {t e : TypeId} {K : Nat} {Q : Nat → Prop} (ht : P.underlying t = some (.slice e)) {w : World} {ao : Option Addr} {n c : Nat} {xs : List Value} (h : Rk Q K w ao n c xs) (h1 : ∀ u, u ∈ xs → u.oneCell' = true) : Src P K t (.slice ao n c) n xs w := by
  have hl := h.len
  rcases Nat.eq_zero_or_pos n with h0 | h0
  · subst h0
    have : xs = [] := List.eq_nil_of_length_eq_zero (by simpa using hl)
    subst this
    cases ao with
    | none => exact Src.ofNil w ht c
    | some a => exact Src.ofSlice w ht a 0 c [] (by simp) (fun j u hj => by simp at hj) (fun u hu => by simp at hu)
  · obtain ⟨b, off, cur, e', hq, rfl, h2, h3⟩ := h.at' h0
    refine Src.ofSlice w ht ⟨b, off, none⟩ n c xs hl (fun j u hj => ?_) h1
    have hjl := (List.getElem?_eq_some_iff.1 hj).1
    rw [Addr.add_lit, cell_of h2, h3 j (by omega)]
    exact hj

/-- Attributes that a slice reads as. -/
theorem Rk.rp {Q : Nat → Prop} {w : World} {ao : Option Addr} {n c : Nat} {l : List Att} (h : Rk Q 2 w ao n c (cs l)) : Rp w ao n c l := by
  have h0 := h.len
  rw [cs_len] at h0
  refine ⟨by omega, h.cap, fun j hj => ?_⟩
  obtain ⟨b, off, cur, e, hq, h1, h2, h3⟩ := h.at' (by omega)
  exact ⟨b, off, h1, by rw [cell_of h2, h3 j hj]⟩

theorem Mp.rk {w w' : World} {ao : Option Addr} {n c : Nat} {l : List Att} (h : Mp w w' ao n c l) {Q : Nat → Prop} (hq : ∀ x, w.heap.size ≤ x → Q x) : Rk Q 2 w' ao n c (cs l) :=
  Rk.of_own h.1 rfl (fun x hx => hq x (h.2.2 x hx))

/-- Where the lists of a node lie: its attributes and its kids. -/
abbrev Pl := (Option Addr × Nat × Nat) × (Option Addr × Nat × Nat)

/-- The cells of a node. -/
def six (l : Lb) (p : Pl) : List Value := [.int .i64 l.kind, .int .i64 l.ns, .string l.name, .slice p.1.1 p.1.2.1 p.1.2.2, .string l.text, .slice p.2.1 p.2.2.1 p.2.2.2]

/-- A tree, as a value. -/
def wv (l : Lb) (p : Pl) : Value := .agg #[.int .i64 l.kind, .int .i64 l.ns, .string l.name, .slice p.1.1 p.1.2.1 p.1.2.2, .string l.text, .slice p.2.1 p.2.2.1 p.2.2.2]

theorem six_len (l : Lb) (p : Pl) : (six l p).length = 6 := rfl

/-- These cells are a row of nodes, all of whose lists lie in blocks that Q lets. -/
def Lf (Q : Nat → Prop) (w : World) : Fo → List Value → Prop
  | ⟨false, _, _, _⟩, xs => xs = []
  | ⟨true, l, k, r⟩, xs => ∃ (p : Pl) (zs ys : List Value), xs = six (l rfl) p ++ ys ∧ Rk Q 2 w p.1.1 p.1.2.1 p.1.2.2 (cs (l rfl).attrs) ∧ Rk Q 6 w p.2.1 p.2.2.1 p.2.2.2 zs ∧ Lf Q w (k rfl) zs ∧ Lf Q w (r rfl) ys

/-- The slice of n nodes from bo on, with room for d, is the row f. -/
def Rt (Q : Nat → Prop) (w : World) (bo : Option Addr) (m d : Nat) (f : Fo) : Prop := ∃ zs, Rk Q 6 w bo m d zs ∧ Lf Q w f zs

/-- A node's lists are there: attributes and kids. -/
structure Nd (Q : Nat → Prop) (w : World) (l : Lb) (k : Fo) (p : Pl) : Prop where
  at' : Rk Q 2 w p.1.1 p.1.2.1 p.1.2.2 (cs l.attrs)
  kids : Rt Q w p.2.1 p.2.2.1 p.2.2.2 k

theorem Lf.nil (Q : Nat → Prop) (w : World) : Lf Q w .nil [] := rfl
theorem Lf.nil_iff {Q : Nat → Prop} {w : World} {xs : List Value} : Lf Q w .nil xs ↔ xs = [] := Iff.rfl

theorem Lf.cons_iff {Q : Nat → Prop} {w : World} {l : Lb} {k r : Fo} {xs : List Value} : Lf Q w (.cons l k r) xs ↔ ∃ (p : Pl) (ys : List Value), xs = six l p ++ ys ∧ Nd Q w l k p ∧ Lf Q w r ys := by
  constructor
  · rintro ⟨p, zs, ys, h1, h2, h3, h6, h7⟩
    exact ⟨p, ys, h1, ⟨h2, ⟨zs, h3, h6⟩⟩, h7⟩
  · rintro ⟨p, ys, h1, ⟨h2, ⟨zs, h3, h6⟩⟩, h7⟩
    exact ⟨p, zs, ys, h1, h2, h3, h6, h7⟩

theorem Lf.cons {Q : Nat → Prop} {w : World} {l : Lb} {k r : Fo} {p : Pl} {ys : List Value} (h : Nd Q w l k p) (hr : Lf Q w r ys) : Lf Q w (.cons l k r) (six l p ++ ys) := Lf.cons_iff.2 ⟨p, ys, rfl, h, hr⟩

theorem Lf.len {Q : Nat → Prop} {w : World} {f : Fo} : ∀ {xs}, Lf Q w f xs → xs.length = f.len * 6 := by
  refine Fo.ind (P := fun f => ∀ {xs}, Lf Q w f xs → xs.length = f.len * 6) (fun {xs} h => ?_) (fun l k r _ hr {xs} h => ?_) f
  · rw [Lf.nil_iff.1 h]; rfl
  · obtain ⟨p, ys, rfl, _, h2⟩ := Lf.cons_iff.1 h
    rw [List.length_append, six_len, hr h2, Fo.len_cons]; omega

theorem Lf.keep {Q : Nat → Prop} {w w' : World} (hs : Sm Q w w') {f : Fo} : ∀ {xs}, Lf Q w f xs → Lf Q w' f xs := by
  refine Fo.ind (P := fun f => ∀ {xs}, Lf Q w f xs → Lf Q w' f xs) (fun {xs} h => h) (fun l k r hk hr {xs} h => ?_) f
  obtain ⟨p, ys, rfl, ⟨h1, ⟨zs, h2, h3⟩⟩, h6⟩ := Lf.cons_iff.1 h
  exact Lf.cons ⟨h1.keep hs, ⟨zs, h2.keep hs, hk h3⟩⟩ (hr h6)

theorem Rt.keep {Q : Nat → Prop} {w w' : World} {bo : Option Addr} {m d : Nat} {f : Fo} (h : Rt Q w bo m d f) (hs : Sm Q w w') : Rt Q w' bo m d f := by
  obtain ⟨zs, h1, h2⟩ := h
  exact ⟨zs, h1.keep hs, h2.keep hs⟩
theorem Nd.keep {Q : Nat → Prop} {w w' : World} {l : Lb} {f : Fo} {p : Pl} (h : Nd Q w l f p) (hs : Sm Q w w') : Nd Q w' l f p := ⟨h.at'.keep hs, h.kids.keep hs⟩
theorem Lf.kept {Q : Nat → Prop} {w w' : World} {f : Fo} {xs : List Value} (h : Lf Q w f xs) (k : Kp [] w w') : Lf Q w' f xs := h.keep (k.sm Q)
theorem Rt.kept {Q : Nat → Prop} {w w' : World} {bo : Option Addr} {m d : Nat} {f : Fo} (h : Rt Q w bo m d f) (k : Kp [] w w') : Rt Q w' bo m d f := h.keep (k.sm Q)
theorem Nd.kept {Q : Nat → Prop} {w w' : World} {l : Lb} {f : Fo} {p : Pl} (h : Nd Q w l f p) (k : Kp [] w w') : Nd Q w' l f p := h.keep (k.sm Q)

theorem Lf.mono {Q R : Nat → Prop} {w : World} (hr : ∀ x, x < w.heap.size → Q x → R x) {f : Fo} : ∀ {xs}, Lf Q w f xs → Lf R w f xs := by
  refine Fo.ind (P := fun f => ∀ {xs}, Lf Q w f xs → Lf R w f xs) (fun {xs} h => h) (fun l k r hk hr' {xs} h => ?_) f
  obtain ⟨p, ys, rfl, ⟨h1, ⟨zs, h2, h3⟩⟩, h6⟩ := Lf.cons_iff.1 h
  exact Lf.cons ⟨h1.mono hr, ⟨zs, h2.mono hr, hk h3⟩⟩ (hr' h6)
theorem Rt.mono {Q R : Nat → Prop} {w : World} {bo : Option Addr} {m d : Nat} {f : Fo} (h : Rt Q w bo m d f) (hr : ∀ x, x < w.heap.size → Q x → R x) : Rt R w bo m d f := by
  obtain ⟨zs, h1, h2⟩ := h
  exact ⟨zs, h1.mono hr, h2.mono hr⟩
theorem Nd.mono {Q R : Nat → Prop} {w : World} {l : Lb} {f : Fo} {p : Pl} (h : Nd Q w l f p) (hr : ∀ x, x < w.heap.size → Q x → R x) : Nd R w l f p := ⟨h.at'.mono hr, h.kids.mono hr⟩
theorem Nd.any {Q : Nat → Prop} {w : World} {l : Lb} {f : Fo} {p : Pl} (h : Nd Q w l f p) : Nd Any w l f p := h.mono (fun _ _ _ => trivial)

theorem six_inj {l m : Lb} {p q : Pl} {ys zs : List Value} (h : six l p ++ ys = six m q ++ zs) : l.kind = m.kind ∧ l.ns = m.ns ∧ l.name = m.name ∧ l.text = m.text ∧ p = q ∧ ys = zs := by
  simp only [six, List.cons_append, List.nil_append, List.cons.injEq, Value.int.injEq, Value.string.injEq, Value.slice.injEq, true_and] at h
  obtain ⟨h1, h2, h3, ⟨h4, h5, h6⟩, h7, ⟨h8, h9, h10⟩, h11⟩ := h
  exact ⟨h1, h2, h3, h7, by
    obtain ⟨⟨a, b, c⟩, d, e, f⟩ := p
    obtain ⟨⟨a', b', c'⟩, d', e', f'⟩ := q
    simp only at h4 h5 h6 h8 h9 h10
    subst h4 h5 h6 h8 h9 h10
    rfl, h11⟩

/-- The cells are one row alone. -/
theorem Lf.det {Q R : Nat → Prop} {w : World} {f : Fo} : ∀ {g xs}, Lf Q w f xs → Lf R w g xs → f = g := by
  refine Fo.ind (P := fun f => ∀ {g xs}, Lf Q w f xs → Lf R w g xs → f = g) (fun {g xs} h h' => ?_) (fun l k r hk hr {g xs} h h' => ?_) f
  · rw [Lf.nil_iff.1 h] at h'
    have := h'.len
    exact (Fo.len_zero.1 (by simp at this; omega)).symm
  · revert h'
    refine Fo.cases (P := fun g => Lf R w g xs → Fo.cons l k r = g) g (fun h' => ?_) (fun l' k' r' h' => ?_)
    · rw [Lf.nil_iff.1 h'] at h
      have := h.len
      simp at this
    · obtain ⟨p, ys, rfl, ⟨h1, ⟨zs, h2, h3⟩⟩, h6⟩ := Lf.cons_iff.1 h
      obtain ⟨p', ys', e, ⟨h1', ⟨zs', h2', h3'⟩⟩, h6'⟩ := Lf.cons_iff.1 h'
      obtain ⟨e1, e2, e3, e4, rfl, rfl⟩ := six_inj e
      have ea : l.attrs = l'.attrs := cs_inj _ _ (h1.det h1')
      obtain rfl := h2.det h2'
      obtain rfl := hk h3 h3'
      obtain rfl := hr h6 h6'
      have : l = l' := by
        obtain ⟨a, b, c, d, e⟩ := l
        obtain ⟨a', b', c', d', e'⟩ := l'
        simp only [Lb.kind, Lb.ns, Lb.name, Lb.text, Lb.attrs] at e1 e2 e3 e4 ea
        subst e1 e2 e3 e4 ea
        rfl
      rw [this]

theorem Rt.det {Q R : Nat → Prop} {w : World} {bo : Option Addr} {m d : Nat} {f g : Fo} (h : Rt Q w bo m d f) (k : Rt R w bo m d g) : f = g := by
  obtain ⟨zs, h1, h2⟩ := h
  obtain ⟨zs', k1, k2⟩ := k
  obtain rfl := h1.det k1
  exact h2.det k2

theorem Rt.nil (Q : Nat → Prop) (w : World) (bo : Option Addr) (d : Nat) : Rt Q w bo 0 d .nil := ⟨[], Rk.nil Q 6 w bo d, rfl⟩

theorem Rt.len {Q : Nat → Prop} {w : World} {bo : Option Addr} {m d : Nat} {f : Fo} (h : Rt Q w bo m d f) : m = f.len := by
  obtain ⟨zs, h1, h2⟩ := h
  have := h1.len
  have := h2.len
  omega

theorem Rt.cap {Q : Nat → Prop} {w : World} {bo : Option Addr} {m d : Nat} {f : Fo} (h : Rt Q w bo m d f) : m ≤ d := by
  obtain ⟨zs, h1, h2⟩ := h
  exact h1.cap

theorem Nd.klen {Q : Nat → Prop} {w : World} {l : Lb} {k : Fo} {p : Pl} (h : Nd Q w l k p) : p.2.2.1 = k.len := h.kids.len
theorem Nd.alen {Q : Nat → Prop} {w : World} {l : Lb} {k : Fo} {p : Pl} (h : Nd Q w l k p) : p.1.2.1 = l.attrs.length := h.at'.rp.len

theorem Lf.app {Q : Nat → Prop} {w : World} {f g : Fo} {ys : List Value} (hg : Lf Q w g ys) : ∀ {xs}, Lf Q w f xs → Lf Q w (f.app g) (xs ++ ys) := by
  refine Fo.ind (P := fun f => ∀ {xs}, Lf Q w f xs → Lf Q w (f.app g) (xs ++ ys)) (fun {xs} h => ?_) (fun l k r _ hr {xs} h => ?_) f
  · rw [Lf.nil_iff.1 h]; exact hg
  · obtain ⟨p, zs, rfl, h1, h2⟩ := Lf.cons_iff.1 h
    rw [List.append_assoc, Fo.app_cons]
    exact Lf.cons h1 (hr h2)

theorem Lf.drop {Q : Nat → Prop} {w : World} (n : Nat) {f : Fo} {xs : List Value} (h : Lf Q w f xs) : Lf Q w (f.drop n) (xs.drop (n * 6)) := by
  induction n generalizing f xs with
  | zero => simpa using h
  | succ n ih =>
    revert h
    refine Fo.cases (P := fun f => Lf Q w f xs → Lf Q w (f.drop (n + 1)) (xs.drop ((n + 1) * 6))) f (fun h => ?_) (fun l k r h => ?_)
    · rw [Lf.nil_iff.1 h]; simp [Lf.nil]
    · obtain ⟨p, ys, rfl, h1, h2⟩ := Lf.cons_iff.1 h
      rw [show (n + 1) * 6 = 6 + n * 6 by omega, ← List.drop_drop, List.drop_left' (six_len l p), Fo.drop_cons]
      exact ih h2

theorem Lf.take {Q : Nat → Prop} {w : World} (n : Nat) {f : Fo} {xs : List Value} (h : Lf Q w f xs) : Lf Q w (f.take n) (xs.take (n * 6)) := by
  induction n generalizing f xs with
  | zero => simp [Lf.nil]
  | succ n ih =>
    revert h
    refine Fo.cases (P := fun f => Lf Q w f xs → Lf Q w (f.take (n + 1)) (xs.take ((n + 1) * 6))) f (fun h => ?_) (fun l k r h => ?_)
    · rw [Lf.nil_iff.1 h]; simp [Lf.nil]
    · obtain ⟨p, ys, rfl, h1, h2⟩ := Lf.cons_iff.1 h
      rw [show (n + 1) * 6 = 6 + n * 6 by omega, List.take_append, six_len, List.take_of_length_le (by rw [six_len]; omega), Nat.add_sub_cancel_left, Fo.take_cons]
      exact Lf.cons h1 (ih h2)

/-- A node at a place of the row: its cells, and its lists. -/
theorem Lf.at {Q : Nat → Prop} {w : World} {f : Fo} {xs : List Value} (h : Lf Q w f xs) {n : Nat} {l : Lb} {k r : Fo} (e : f.drop n = .cons l k r) : ∃ p, Nd Q w l k p ∧ ∀ i, i < 6 → xs[n * 6 + i]? = (six l p)[i]? := by
  have h1 := h.drop n
  rw [e] at h1
  obtain ⟨p, ys, h2, h3, _⟩ := Lf.cons_iff.1 h1
  refine ⟨p, h3, fun i hi => ?_⟩
  rw [← List.getElem?_drop, h2, List.getElem?_append_left (by rw [six_len]; exact hi)]

/-- A node's six cells lie at an address. -/
def Cl (w : World) (b off : Nat) (l : Lb) (p : Pl) : Prop := ∃ cur e, w.heap[b]? = some (.cells cur e (0, 0)) ∧ ∀ i, i < 6 → cur[off + i]? = (six l p)[i]?

theorem Cl.cells {w : World} {b off : Nat} {l : Lb} {p : Pl} (h : Cl w b off l p) : w.cell? ⟨b, off, none⟩ = some (.int .i64 l.kind) ∧ w.cell? ⟨b, off + 1, none⟩ = some (.int .i64 l.ns) ∧ w.cell? ⟨b, off + 2, none⟩ = some (.string l.name) ∧ w.cell? ⟨b, off + 3, none⟩ = some (.slice p.1.1 p.1.2.1 p.1.2.2) ∧ w.cell? ⟨b, off + 4, none⟩ = some (.string l.text) ∧ w.cell? ⟨b, off + 5, none⟩ = some (.slice p.2.1 p.2.2.1 p.2.2.2) := by
  obtain ⟨cur, e, h1, h2⟩ := h
  exact ⟨(cell_of h1 _).trans (h2 0 (by omega)), (cell_of h1 _).trans (h2 1 (by omega)), (cell_of h1 _).trans (h2 2 (by omega)), (cell_of h1 _).trans (h2 3 (by omega)), (cell_of h1 _).trans (h2 4 (by omega)), (cell_of h1 _).trans (h2 5 (by omega))⟩

theorem Cl.lt {w : World} {b off : Nat} {l : Lb} {p : Pl} (h : Cl w b off l p) : b < w.heap.size := by
  obtain ⟨cur, e, h1, h2⟩ := h
  exact (Array.getElem?_eq_some_iff.1 h1).1

theorem Cl.keep {S : List Nat} {w w' : World} {b off : Nat} {l : Lb} {p : Pl} (h : Cl w b off l p) (k : Kp S w w') (hn : b ∉ S) : Cl w' b off l p := by
  have hl := h.lt
  obtain ⟨cur, e, h1, h2⟩ := h
  exact ⟨cur, e, by rw [k.block b hl hn]; exact h1, h2⟩

theorem Rt.at {Q : Nat → Prop} {w : World} {bo : Option Addr} {m d : Nat} {f : Fo} (h : Rt Q w bo m d f) {n : Nat} {l : Lb} {k r : Fo} (e : f.drop n = .cons l k r) :
    ∃ p b off, Q b ∧ bo = some ⟨b, off, none⟩ ∧ Nd Q w l k p ∧ Cl w b (off + n * 6) l p := by
  have hm := h.len
  have hn : n < f.len := by
    have h1 := congrArg Fo.len e
    rw [Fo.len_drop, Fo.len_cons] at h1
    omega
  obtain ⟨zs, h1, h2⟩ := h
  obtain ⟨p, h3, h4⟩ := h2.at e
  obtain ⟨b, off, cur, e', hq, h5, h6, h7⟩ := h1.at' (by omega)
  exact ⟨p, b, off, hq, h5, h3, cur, e', h6, fun i hi => by rw [Nat.add_assoc, h7 _ (by omega), h4 i hi]⟩

/-- Another node with other kids put at a place of the row. -/
theorem Lf.put {Q : Nat → Prop} {w : World} {f : Fo} {xs : List Value} (h : Lf Q w f xs) {n : Nat} {l : Lb} {k r : Fo} (e : f.drop n = .cons l k r) (g : Fo → Fo) {p : Pl} (hp : Nd Q w l (g k) p) : Lf Q w (f.turn g n) (xs.take (n * 6) ++ (six l p ++ xs.drop ((n + 1) * 6))) := by
  induction n generalizing f xs with
  | zero =>
    rw [Fo.drop_zero] at e
    subst e
    obtain ⟨p', ys, rfl, h1, h2⟩ := Lf.cons_iff.1 h
    rw [show (0 + 1) * 6 = 6 from rfl, List.drop_left' (six_len l p')]
    simpa using Lf.cons hp h2
  | succ n ih =>
    revert h e
    refine Fo.cases (P := fun f => Lf Q w f xs → f.drop (n + 1) = .cons l k r → Lf Q w (f.turn g (n + 1)) (xs.take ((n + 1) * 6) ++ (six l p ++ xs.drop ((n + 1 + 1) * 6)))) f (fun h e => ?_) (fun l' k' r' h e => ?_)
    · have := congrArg Fo.len e; simp at this
    · obtain ⟨p', ys, rfl, h1, h2⟩ := Lf.cons_iff.1 h
      rw [Fo.drop_cons] at e
      rw [show (n + 1) * 6 = 6 + n * 6 by omega, show (n + 1 + 1) * 6 = 6 + (n + 1) * 6 by omega, List.take_append, six_len, List.take_of_length_le (by rw [six_len]; omega), Nat.add_sub_cancel_left, ← List.drop_drop, List.drop_left' (six_len l' p'), Fo.turn_succ, List.append_assoc]
      exact Lf.cons h1 (ih h2 e)

theorem Lf.one {Q : Nat → Prop} {w : World} {f : Fo} : ∀ {xs}, Lf Q w f xs → ∀ u, u ∈ xs → u.oneCell' = true := by
  refine Fo.ind (P := fun f => ∀ {xs}, Lf Q w f xs → ∀ u, u ∈ xs → u.oneCell' = true) (fun {xs} h u hu => ?_) (fun l k r _ hr {xs} h u hu => ?_) f
  · rw [Lf.nil_iff.1 h] at hu; simp at hu
  · obtain ⟨p, ys, rfl, _, h2⟩ := Lf.cons_iff.1 h
    rw [List.mem_append] at hu
    rcases hu with hu | hu
    · simp only [six, List.mem_cons, List.not_mem_nil, or_false] at hu
      rcases hu with rfl | rfl | rfl | rfl | rfl | rfl <;> rfl
    · exact hr h2 u hu

end Go.Proofs.YtgjkfpmhgidpaaaGreat

/-
  What the chapter's judgement is, and how the trees that are asked are grown: no program.
-/
namespace Go.Proofs.YtgjkfpmhgidpaaaGreat
set_option linter.unusedVariables false

def NON : ByteArray := ⟨#[]⟩
def TMPL : ByteArray := ⟨#[116, 101, 109, 112, 108, 97, 116, 101]⟩

/-- Are the fields that a node does not have zero? (n: how many kids.) -/
def aloneF (l : Lb) (n : Nat) : Bool :=
  if l.kind = 3 then decide ((l.ns = 1 ∨ l.ns = 2) ∧ ¬ l.name = NON ∧ l.text = NON ∧ (uniq l.attrs).length = l.attrs.length)
  else if l.kind = 4 then decide (l.ns = 0 ∧ l.name = NON ∧ l.attrs.length = 0 ∧ ¬ l.text = NON ∧ n = 0)
  else if l.kind = 5 then decide (l.ns = 0 ∧ l.name = NON ∧ l.attrs.length = 0 ∧ n = 0)
  else if l.kind = 2 then decide (l.ns = 0 ∧ l.text = NON ∧ l.attrs.length = 0 ∧ n = 0)
  else if l.kind = 1 ∨ l.kind = 6 then decide (l.ns = 0 ∧ l.name = NON ∧ l.text = NON ∧ l.attrs.length = 0)
  else false

def tmplF (l : Lb) : Bool := decide (l.kind = 3 ∧ l.ns = 1 ∧ l.name = TMPL)

/-- A node by itself and how many kids it has, without what stands below. -/
def selfF (l : Lb) (n : Nat) : Bool := aloneF l n && !(tmplF l && decide (n = 0))

/-- May it stand here: under p, as the first one or not, behind a Text or not. -/
def hereF (p : Lb) (first text : Bool) (l : Lb) : Bool :=
  !decide (l.kind = 1) && !(decide (l.kind = 2) && !decide (p.kind = 1)) && !(decide (l.kind = 4) && (decide (p.kind = 1) || text)) && (decide (l.kind = 6) == (tmplF p && first))

/-- The kids of p, from a place of the row on. -/
def kidsF : Fo → Lb → Bool → Bool → Bool
  | ⟨false, _, _, _⟩, _, _, _ => true
  | ⟨true, l, k, r⟩, p, first, text => hereF p first text (l rfl) && (selfF (l rfl) (k rfl).len && kidsF (k rfl) (l rfl) true false) && kidsF (r rfl) p false (decide ((l rfl).kind = 4))

theorem kids_nil (p : Lb) (first text : Bool) : kidsF .nil p first text = true := rfl
theorem kids_cons (p l : Lb) (k r : Fo) (first text : Bool) : kidsF (.cons l k r) p first text = (hereF p first text l && (selfF l k.len && kidsF k l true false) && kidsF r p false (decide (l.kind = 4))) := rfl

/-- Below the top one. -/
def belowF (l : Lb) (k : Fo) : Bool := selfF l k.len && kidsF k l true false

def rightF (l : Lb) (k : Fo) : Bool := decide (l.kind = 1) && belowF l k

/-- What is always let at the end of a row under p, is let there. -/
theorem kids_more {p x : Lb} {y : Fo} (hx : ∀ a b, hereF p a b x = true) (hy : belowF x y = true) (f : Fo) : ∀ first text, kidsF (f.app (.cons x y .nil)) p first text = kidsF f p first text := by
  refine Fo.ind (P := fun f => ∀ first text, kidsF (f.app (.cons x y .nil)) p first text = kidsF f p first text) (fun a b => ?_) (fun l k r _ hr a b => ?_) f
  · rw [Fo.app_nil, kids_cons, hx, kids_nil, kids_nil]
    unfold belowF at hy
    rw [hy]; rfl
  · rw [Fo.app_cons, kids_cons, kids_cons, hr]

/-- The attributes of a line, behind s. -/
def lineA : List Att → ByteArray → ByteArray
  | [], s => s
  | a :: l, s => lineA l (s ++ ⟨#[32]⟩ ++ a.1 ++ ⟨#[61, 34]⟩ ++ a.2 ++ ⟨#[34]⟩)

theorem lineA_snoc (l : List Att) (a : Att) (s : ByteArray) : lineA (l ++ [a]) s = lineA l s ++ ⟨#[32]⟩ ++ a.1 ++ ⟨#[61, 34]⟩ ++ a.2 ++ ⟨#[34]⟩ := by
  induction l generalizing s with
  | nil => rfl
  | cons b l ih => exact ih _

def lineF (l : Lb) : ByteArray :=
  if l.kind = 2 then ⟨#[60, 33]⟩ ++ l.name ++ ⟨#[62]⟩
  else if l.kind = 4 then ⟨#[34]⟩ ++ l.text ++ ⟨#[34]⟩
  else if l.kind = 5 then ⟨#[60, 33, 45, 45, 32]⟩ ++ l.text ++ ⟨#[32, 45, 45, 62]⟩
  else if l.kind = 6 then ⟨#[99, 111, 110, 116, 101, 110, 116]⟩
  else if l.kind = 3 then lineA l.attrs ((if l.ns = 2 then ⟨#[60, 115, 118, 103, 58]⟩ else ⟨#[60]⟩) ++ l.name) ++ ⟨#[62]⟩
  else ⟨#[63]⟩

theorem line_lfs {l : Lb} (h1 : Fo.lfs l.name = 0) (h2 : Fo.lfs l.text = 0) (h3 : l.attrs = []) : Fo.lfs (lineF l) = 0 := by
  have e1 : Fo.lfs ⟨#[60, 33]⟩ = 0 := rfl
  have e2 : Fo.lfs ⟨#[62]⟩ = 0 := rfl
  have e3 : Fo.lfs ⟨#[34]⟩ = 0 := rfl
  have e4 : Fo.lfs ⟨#[60, 33, 45, 45, 32]⟩ = 0 := rfl
  have e5 : Fo.lfs ⟨#[32, 45, 45, 62]⟩ = 0 := rfl
  have e6 : Fo.lfs ⟨#[99, 111, 110, 116, 101, 110, 116]⟩ = 0 := rfl
  have e7 : Fo.lfs ⟨#[60, 115, 118, 103, 58]⟩ = 0 := rfl
  have e8 : Fo.lfs ⟨#[60]⟩ = 0 := rfl
  have e9 : Fo.lfs ⟨#[63]⟩ = 0 := rfl
  unfold lineF
  split
  · simp only [Fo.lfs_app, e1, e2, h1]
  split
  · simp only [Fo.lfs_app, e3, h2]
  split
  · simp only [Fo.lfs_app, e4, e5, h2]
  split
  · exact e6
  split
  · rw [h3]
    unfold lineA
    split <;> simp only [Fo.lfs_app, e2, e7, e8, h1]
  · exact e9

def textF (l : Lb) : ByteArray := if l.kind = 4 then l.text else NON

/-- What Count, Depth, Text, Show and Same tell of a tree. -/
def countT (l : Lb) (k : Fo) : Nat := 1 + k.cnt
def depthT (l : Lb) (k : Fo) : Nat := k.dep + 1
def textT (l : Lb) (k : Fo) : ByteArray := textF l ++ k.fold textF
def showT (l : Lb) (k : Fo) : ByteArray := k.show_ lineF NON
def sameL (a b : Lb) : Bool := decide (a = b)
def sameT (a : Lb) (f : Fo) (b : Lb) (g : Fo) : Bool := sameL a b && f.same sameL g

theorem sameT_iff (a : Lb) (f : Fo) (b : Lb) (g : Fo) : sameT a f b g = true ↔ a = b ∧ f = g := by
  unfold sameT
  rw [Bool.and_eq_true, Fo.same_eq (fun a b => by simp [sameL]) g]
  simp [sameL]

theorem sameT_comm (a : Lb) (f : Fo) (b : Lb) (g : Fo) : sameT a f b g = sameT b g a f := by
  rw [Bool.eq_iff_iff, sameT_iff, sameT_iff]
  exact ⟨fun h => ⟨h.1.symm, h.2.symm⟩, fun h => ⟨h.1.symm, h.2.symm⟩⟩

/-- May it hold no others? -/
def leafF (l : Lb) : Bool := decide (l.kind = 4 ∨ l.kind = 5 ∨ l.kind = 2)

/-- A node at the end of the one that a way leads to, and the way to it. -/
def underF (x : Lb) (y : Fo) : List Nat → Fo → Fo × List Nat
  | [], f => (f.app (.cons x y .nil), if leafF x then [] else [f.len])
  | i :: ws, f => (f.turn (fun k => (underF x y ws k).1) i, i :: (underF x y ws (f.under i)).2)

/-- The way leads to nodes that are there. -/
def Way : List Nat → Fo → Prop
  | [], _ => True
  | i :: ws, f => i < f.len ∧ Way ws (f.under i)

theorem Way.take {f : Fo} {ws : List Nat} (h : Way ws f) (n : Nat) : Way (ws.take n) f := by
  induction ws generalizing f n with
  | nil => simp [Way]
  | cons i ws ih =>
    cases n with
    | zero => simp [Way]
    | succ n => exact ⟨h.1, ih h.2 n⟩

theorem Way.grown {x : Lb} {y : Fo} {ws : List Nat} {f : Fo} (h : Way ws f) : Way (underF x y ws f).2 (underF x y ws f).1 := by
  induction ws generalizing f with
  | nil =>
    unfold underF
    split
    · trivial
    · exact ⟨by rw [Fo.len_app]; simp, trivial⟩
  | cons i ws ih =>
    obtain ⟨h1, h2⟩ := h
    obtain ⟨l, k, e⟩ := Fo.at_lt h1
    rw [Fo.under_of e] at h2
    refine ⟨by rw [show (underF x y (i :: ws) f).1 = f.turn (fun k => (underF x y ws k).1) i from rfl, Fo.len_turn]; exact h1, ?_⟩
    rw [show (underF x y (i :: ws) f).1 = f.turn (fun k => (underF x y ws k).1) i from rfl, Fo.under_of (Fo.drop_turn _ e), Fo.under_of e]
    exact ih h2

theorem under_cnt {x : Lb} {y : Fo} {ws : List Nat} {f : Fo} (h : Way ws f) : (underF x y ws f).1.cnt = f.cnt + 1 + y.cnt := by
  induction ws generalizing f with
  | nil => unfold underF; rw [Fo.cnt_app, Fo.cnt_cons, Fo.cnt_nil]; omega
  | cons i ws ih =>
    obtain ⟨h1, h2⟩ := h
    obtain ⟨l, k, e⟩ := Fo.at_lt h1
    rw [Fo.under_of e] at h2
    have := Fo.cnt_turn (fun k => (underF x y ws k).1) e
    simp only [ih h2] at this
    show (f.turn (fun k => (underF x y ws k).1) i).cnt = _
    omega

theorem under_len {x : Lb} {y : Fo} {ws : List Nat} {f : Fo} : (underF x y ws f).2.length ≤ ws.length + 1 := by
  induction ws generalizing f with
  | nil => unfold underF; split <;> simp
  | cons i ws ih => have := ih (f := f.under i); simp only [underF, List.length_cons]; omega

theorem under_each {P : Lb → Prop} {x : Lb} {y : Fo} (hx : P x) (hy : y.Each P) {ws : List Nat} {f : Fo} (hf : f.Each P) : (underF x y ws f).1.Each P := by
  induction ws generalizing f with
  | nil => exact Fo.each_app hf ⟨hx, hy, trivial⟩
  | cons i ws ih => exact Fo.each_turn hf (fun h => ih h)

/-- One node more: how many steps up, and the node. -/
def growS (t : Fo × List Nat) (n : Int × Lb × Fo) : Fo × List Nat := underF n.2.1 n.2.2 (t.2.take (t.2.length - wi n.1 t.2.length)) t.1

def growF (l : List (Int × Lb × Fo)) : Fo × List Nat := l.foldl growS (.nil, [])

theorem grow_snoc (l : List (Int × Lb × Fo)) (n : Int × Lb × Fo) : growF (l ++ [n]) = growS (growF l) n := by
  simp [growF, List.foldl_append]

theorem grow_way (l : List (Int × Lb × Fo)) : Way (growF l).2 (growF l).1 := by
  suffices h : ∀ (l : List (Int × Lb × Fo)) t, Way t.2 t.1 → Way (l.foldl growS t).2 (l.foldl growS t).1 from h l _ trivial
  intro l
  induction l with
  | nil => exact fun t h => h
  | cons n l ih => exact fun t h => ih _ (Way.grown (h.take _))

theorem grow_len (l : List (Int × Lb × Fo)) : (growF l).2.length ≤ l.length := by
  suffices h : ∀ (l : List (Int × Lb × Fo)) t, (l.foldl growS t).2.length ≤ t.2.length + l.length by have := h l (.nil, []); simpa [growF] using this
  intro l
  induction l with
  | nil => exact fun t => by simp
  | cons n l ih =>
    intro t
    have h1 := ih (growS t n)
    have h2 : (growS t n).2.length ≤ (t.2.take (t.2.length - wi n.1 t.2.length)).length + 1 := under_len
    simp only [List.length_take, List.foldl_cons, List.length_cons] at *
    omega

theorem grow_cnt (l : List (Int × Lb × Fo)) (h : ∀ n, n ∈ l → n.2.2.cnt ≤ 1) : (growF l).1.cnt ≤ 2 * l.length := by
  suffices h : ∀ (l : List (Int × Lb × Fo)) t, (∀ n, n ∈ l → n.2.2.cnt ≤ 1) → Way t.2 t.1 → (l.foldl growS t).1.cnt ≤ t.1.cnt + 2 * l.length by have := h l (.nil, []) ‹_› trivial; simpa [growF] using this
  intro l
  induction l with
  | nil => exact fun t _ _ => by simp
  | cons n l ih =>
    intro t h w
    have h1 := ih (growS t n) (fun m hm => h m (by simp [hm])) (Way.grown (w.take _))
    have h2 : (growS t n).1.cnt = t.1.cnt + 1 + n.2.2.cnt := under_cnt (w.take _)
    have h3 := h n (by simp)
    simp only [List.foldl_cons, List.length_cons] at *
    omega

theorem grow_each {P : Lb → Prop} (l : List (Int × Lb × Fo)) (h : ∀ n, n ∈ l → P n.2.1 ∧ n.2.2.Each P) : (growF l).1.Each P := by
  suffices h : ∀ (l : List (Int × Lb × Fo)) t, (∀ n, n ∈ l → P n.2.1 ∧ n.2.2.Each P) → t.1.Each P → (l.foldl growS t).1.Each P from h l (.nil, []) ‹_› trivial
  intro l
  induction l with
  | nil => exact fun t _ h => h
  | cons n l ih => exact fun t h ht => ih _ (fun m hm => h m (by simp [hm])) (under_each (h n (by simp)).1 (h n (by simp)).2 ht)

/-- A node that may be. -/
def madeF (k ns : Int) (name text : ByteArray) : Lb × Fo :=
  if wi k 1000 % 4 = 0 then ((5, 0, NON, [], text), .nil)
  else if wi k 1000 % 4 = 1 ∧ ¬ text = NON then ((4, 0, NON, [], text), .nil)
  else if wi k 1000 % 4 = 2 then ((3, 1, TMPL, [], NON), .cons (6, 0, NON, [], NON) .nil .nil)
  else ((3, 1 + (wi ns 1 : Int), ⟨#[120]⟩ ++ name, [], NON), .nil)

theorem made_cnt (k ns : Int) (name text : ByteArray) : (madeF k ns name text).2.cnt ≤ 1 := by
  unfold madeF
  split
  · simp
  split
  · simp
  split <;> simp

theorem made_plain {name text : ByteArray} (h1 : Fo.lfs name = 0) (h2 : Fo.lfs text = 0) (k ns : Int) : (fun l : Lb => Fo.lfs (lineF l) = 0) (madeF k ns name text).1 ∧ (madeF k ns name text).2.Each (fun l => Fo.lfs (lineF l) = 0) := by
  unfold madeF
  split
  · exact ⟨line_lfs rfl h2 rfl, trivial⟩
  split
  · exact ⟨line_lfs rfl h2 rfl, trivial⟩
  split
  · exact ⟨line_lfs rfl rfl rfl, ⟨line_lfs rfl rfl rfl, trivial, trivial⟩⟩
  · exact ⟨line_lfs (by show Fo.lfs (⟨#[120]⟩ ++ name) = 0; rw [Fo.lfs_app, h1]; rfl) rfl rfl, trivial⟩

/-- So many elements, one within the other, around a row. -/
def chainF (l : Lb) (f : Fo) : Nat → Fo
  | 0 => f
  | n + 1 => .cons l (chainF l f n) .nil

theorem chain_len {l : Lb} {f : Fo} (h : f.len = 1) : ∀ n, (chainF l f n).len = 1
  | 0 => h
  | n + 1 => rfl

theorem chain_cnt (l : Lb) (f : Fo) : ∀ n, (chainF l f n).cnt = n + f.cnt
  | 0 => by simp [chainF]
  | n + 1 => by rw [chainF, Fo.cnt_cons, chain_cnt l f n, Fo.cnt_nil]; omega

theorem chain_dep (l : Lb) (f : Fo) : ∀ n, (chainF l f n).dep = n + f.dep
  | 0 => by simp [chainF]
  | n + 1 => by rw [chainF, Fo.dep_cons, chain_dep l f n, Fo.dep_nil]; omega

theorem chain_fold {g : Lb → ByteArray} {l : Lb} (hl : g l = NON) (f : Fo) : ∀ n, (chainF l f n).fold g = f.fold g
  | 0 => rfl
  | n + 1 => by rw [chainF, Fo.fold_cons, chain_fold hl f n, Fo.fold_nil, hl]; exact (Fo.cat_none _).trans (Fo.none_cat _)

/-- A chain of elements is right below a node, if its last row is right under one of them and under the node. -/
theorem chain_kids {p l : Lb} {f : Fo} (hp : hereF p true false l = true) (hh : hereF l true false l = true) (hl : ∀ n, 0 < n → selfF l n = true) (hf : f.len = 1) (h1 : kidsF f l true false = true) (h2 : kidsF f p true false = true) : ∀ n, kidsF (chainF l f n) p true false = true ∧ kidsF (chainF l f n) l true false = true
  | 0 => ⟨h2, h1⟩
  | n + 1 => by
    have ih := (chain_kids hp hh hl hf h1 h2 n).2
    have hs := hl (chainF l f n).len (by rw [chain_len hf]; exact Nat.one_pos)
    exact ⟨by rw [chainF, kids_cons, hp, hs, ih, kids_nil]; rfl, by rw [chainF, kids_cons, hh, hs, ih, kids_nil]; rfl⟩

end Go.Proofs.YtgjkfpmhgidpaaaGreat

/-
  Arenas by themselves: nodes by numbers, each with its kids and its parent: no program.
-/
namespace Go.Proofs.YtgjkfpmhgidpaaaGreat
set_option linter.unusedVariables false
set_option linter.unusedSimpArgs false

/-- So many nodes; of each what it has by itself, its kids, its parent. -/
structure Ar where
  n : Nat
  lb : Nat → Lb
  kids : Nat → List Nat
  up : Nat → Option Nat

namespace Ar

/-- So many steps above a node. -/
def anc (a : Ar) : Nat → Nat → Option Nat
  | 0, x => some x
  | k + 1, x => (a.up x).bind (a.anc k)

/-- Is x the node t, or below it? -/
def Wn (a : Ar) (x t : Nat) : Prop := ∃ k, a.anc k x = some t

theorem Wn.refl (a : Ar) (x : Nat) : a.Wn x x := ⟨0, rfl⟩
theorem Wn.step {a : Ar} {x p t : Nat} (h : a.up x = some p) (w : a.Wn p t) : a.Wn x t := by
  obtain ⟨k, e⟩ := w
  exact ⟨k + 1, by simp only [anc, h, Option.bind_some, e]⟩
theorem Wn.cases {a : Ar} {x t : Nat} (h : a.Wn x t) : x = t ∨ ∃ p, a.up x = some p ∧ a.Wn p t := by
  obtain ⟨k, e⟩ := h
  cases k with
  | zero => exact .inl (by simpa [anc] using e)
  | succ k =>
    refine .inr ?_
    cases hu : a.up x with
    | none => simp [anc, hu] at e
    | some p => exact ⟨p, rfl, k, by simpa [anc, hu] using e⟩
theorem Wn.none {a : Ar} {x t : Nat} (hu : a.up x = none) : a.Wn x t ↔ x = t := by
  refine ⟨fun h => ?_, fun h => h ▸ Wn.refl a x⟩
  rcases h.cases with h | ⟨p, h, _⟩
  · exact h
  · rw [hu] at h; cases h
theorem Wn.some {a : Ar} {x p t : Nat} (hu : a.up x = some p) : a.Wn x t ↔ x = t ∨ a.Wn p t := by
  refine ⟨fun h => ?_, fun h => ?_⟩
  · rcases h.cases with h | ⟨q, h, w⟩
    · exact .inl h
    · rw [hu] at h; cases h; exact .inr w
  · rcases h with h | h
    · exact h ▸ Wn.refl a x
    · exact Wn.step hu h
theorem Wn.trans {a : Ar} {x y z : Nat} (h : a.Wn x y) (g : a.Wn y z) : a.Wn x z := by
  obtain ⟨k, e⟩ := h
  induction k generalizing x with
  | zero =>
    obtain rfl : x = y := by simpa [anc] using e
    exact g
  | succ k ih =>
    cases hu : a.up x with
    | none => simp [anc, hu] at e
    | some p => exact Wn.step hu (ih (by simpa [anc, hu] using e))

/-- Links that hold together, none below itself. -/
structure Ok (a : Ar) : Prop where
  pos : 0 < a.n
  top : a.up 0 = none
  out : ∀ x, a.n ≤ x → a.kids x = [] ∧ a.up x = none
  link : ∀ p x, x ∈ a.kids p ↔ a.up x = some p
  one : ∀ p, (a.kids p).Nodup
  rank : ∃ r : Nat → Nat, ∀ x p, a.up x = some p → r p < r x

theorem Ok.lt {a : Ar} (h : a.Ok) {p x : Nat} (e : a.up x = some p) : x < a.n ∧ p < a.n := by
  constructor
  · refine Nat.lt_of_not_le fun hx => ?_
    rw [(h.out x hx).2] at e; cases e
  · refine Nat.lt_of_not_le fun hp => ?_
    have := (h.link p x).2 e
    rw [(h.out p hp).1] at this; cases this

theorem Ok.kid_lt {a : Ar} (h : a.Ok) {p x : Nat} (e : x ∈ a.kids p) : x < a.n ∧ p < a.n := h.lt ((h.link p x).1 e)

theorem Ok.not_up {a : Ar} (h : a.Ok) {x p : Nat} (e : a.up x = some p) : ¬ a.Wn p x := by
  obtain ⟨r, hr⟩ := h.rank
  have key : ∀ k y z, a.anc k y = some z → r z ≤ r y := by
    intro k
    induction k with
    | zero => intro y z e; obtain rfl : y = z := by simpa [anc] using e
              exact Nat.le_refl _
    | succ k ih =>
      intro y z e
      cases hu : a.up y with
      | none => simp [anc, hu] at e
      | some q =>
        have h1 := ih q z (by simpa [anc, hu] using e)
        have h2 := hr y q hu
        omega
  rintro ⟨k, e2⟩
  have h1 := key k p x e2
  have h2 := hr x p e
  omega

/-- n among the kids of p, at a place. -/
def put (a : Ar) (p i x : Nat) : Ar :=
  { a with kids := fun y => if y = p then (a.kids p).take i ++ x :: (a.kids p).drop i else a.kids y, up := fun y => if y = x then some p else a.up y }

theorem Ok.put {a : Ar} (h : a.Ok) {p i x : Nat} (hp : p < a.n) (hx : x < a.n) (h0 : x ≠ 0) (hu : a.up x = none) (hw : ¬ a.Wn p x) : (a.put p i x).Ok := by
  have hn : ∀ q, x ∉ a.kids q := fun q hq => by rw [(h.link q x).1 hq] at hu; cases hu
  have hm : ∀ y, y ∈ (a.kids p).take i ++ x :: (a.kids p).drop i ↔ y = x ∨ y ∈ a.kids p := fun y => by
    rw [List.mem_append, List.mem_cons]
    have : y ∈ a.kids p ↔ y ∈ (a.kids p).take i ∨ y ∈ (a.kids p).drop i := by
      rw [← List.mem_append, List.take_append_drop]
    rw [this]
    constructor
    · rintro (h | h | h)
      · exact .inr (.inl h)
      · exact .inl h
      · exact .inr (.inr h)
    · rintro (h | h | h)
      · exact .inr (.inl h)
      · exact .inl h
      · exact .inr (.inr h)
  refine ⟨h.pos, ?_, fun y hy => ⟨?_, ?_⟩, fun q y => ?_, fun q => ?_, ?_⟩
  · show (if 0 = x then _ else _) = none
    rw [if_neg (fun e => h0 e.symm)]; exact h.top
  · show (if y = p then _ else _) = _
    have : a.n ≤ y := hy
    rw [if_neg (by omega)]; exact (h.out y hy).1
  · show (if y = x then _ else _) = none
    have : a.n ≤ y := hy
    rw [if_neg (by omega)]; exact (h.out y hy).2
  · show y ∈ (if q = p then _ else _) ↔ (if y = x then _ else _) = some q
    by_cases hq : q = p
    · subst hq
      rw [if_pos rfl, hm]
      by_cases hy : y = x
      · rw [if_pos hy]; exact ⟨fun _ => rfl, fun _ => .inl hy⟩
      · rw [if_neg hy, ← h.link q y]
        exact ⟨fun h => h.resolve_left hy, .inr⟩
    · rw [if_neg hq]
      by_cases hy : y = x
      · subst hy
        rw [if_pos rfl]
        exact ⟨fun h => absurd h (hn q), fun e => absurd (Option.some.inj e).symm hq⟩
      · rw [if_neg hy]; exact h.link q y
  · show (if q = p then _ else _ : List Nat).Nodup
    by_cases hq : q = p
    · rw [if_pos hq]
      have h1 := h.one p
      rw [← List.take_append_drop i (a.kids p), List.nodup_append] at h1
      rw [List.nodup_append, List.nodup_cons]
      refine ⟨h1.1, ⟨fun e => hn p (List.mem_of_mem_drop e), h1.2.1⟩, fun y hy z hz => ?_⟩
      rcases List.mem_cons.1 hz with rfl | hz
      · exact fun e => hn p (e ▸ List.mem_of_mem_take hy)
      · exact h1.2.2 y hy z hz
    · rw [if_neg hq]; exact h.one q
  · obtain ⟨r, hr⟩ := h.rank
    classical
    refine ⟨fun y => if a.Wn y x then r y + r p + 1 else r y, fun y q e => ?_⟩
    replace e : (if y = x then some p else a.up y) = some q := e
    by_cases hy : y = x
    · subst hy
      rw [if_pos rfl] at e
      obtain rfl := Option.some.inj e
      simp only [if_neg hw, if_pos (Wn.refl a y)]
      omega
    · rw [if_neg hy] at e
      have h1 := hr y q e
      have h2 : a.Wn y x ↔ a.Wn q x := (Wn.some e).trans ⟨fun h => h.resolve_left hy, .inr⟩
      simp only [h2]
      split <;> omega

/-- x without a parent. -/
def cut (a : Ar) (x : Nat) : Ar :=
  { a with kids := fun y => if a.up x = some y then (a.kids y).erase x else a.kids y, up := fun y => if y = x then none else a.up y }

theorem Ok.cut {a : Ar} (h : a.Ok) (x : Nat) : (a.cut x).Ok := by
  refine ⟨h.pos, ?_, fun y hy => ⟨?_, ?_⟩, fun q y => ?_, fun q => ?_, ?_⟩
  · show (if 0 = x then _ else _) = none
    split
    · rfl
    · exact h.top
  · show (if a.up x = some y then _ else _) = _
    rw [(h.out y hy).1]; split <;> rfl
  · show (if y = x then _ else _) = none
    split
    · rfl
    · exact (h.out y hy).2
  · show y ∈ (if a.up x = some q then _ else _) ↔ (if y = x then _ else _) = some q
    by_cases hy : y = x
    · subst hy
      rw [if_pos rfl]
      refine ⟨fun e => ?_, fun e => by cases e⟩
      split at e
      · exact absurd e (h.one q).not_mem_erase
      · rename_i hne; exact absurd ((h.link q y).1 e) hne
    · rw [if_neg hy, ← h.link q y]
      split
      · exact List.mem_erase_of_ne hy
      · exact Iff.rfl
  · show (if a.up x = some q then _ else _ : List Nat).Nodup
    split
    · exact (h.one q).erase x
    · exact h.one q
  · obtain ⟨r, hr⟩ := h.rank
    refine ⟨r, fun y q e => ?_⟩
    replace e : (if y = x then none else a.up y) = some q := e
    by_cases hy : y = x
    · rw [if_pos hy] at e; cases e
    · rw [if_neg hy] at e; exact hr y q e

theorem cut_wn {a : Ar} {x y t : Nat} (h : (a.cut x).Wn y t) : a.Wn y t := by
  obtain ⟨k, e⟩ := h
  induction k generalizing y with
  | zero => exact ⟨0, e⟩
  | succ k ih =>
    by_cases hy : y = x
    · subst hy
      have : (a.cut y).up y = Option.none := by show (if y = y then _ else _) = Option.none; rw [if_pos rfl]
      simp [anc, this] at e
    · have hu : (a.cut x).up y = a.up y := by show (if y = x then _ else _) = _; rw [if_neg hy]
      cases hq : a.up y with
      | none => simp [anc, hu, hq] at e
      | some q => exact Wn.step hq (ih (by simpa [anc, hu, hq] using e))

/-- A kid of 'from' goes to the end of 'to': to is not below from, so not below the kid. -/
theorem Ok.shift {a : Ar} (h : a.Ok) {f t x i : Nat} (hx : x ∈ a.kids f) (ht : t < a.n) (hw : ¬ a.Wn t f) : ((a.cut x).put t i x).Ok := by
  have hu := (h.link f x).1 hx
  have hl := h.lt hu
  refine (h.cut x).put ht hl.1 (fun e => ?_) ?_ (fun hw2 => hw ?_)
  · rw [e, h.top] at hu; cases hu
  · show (if x = x then _ else _) = Option.none
    rw [if_pos rfl]
  · exact (cut_wn hw2).trans (Wn.step hu (Wn.refl a f))

/-- One node more, by itself. -/
def new (a : Ar) (l : Lb) : Ar := { a with n := a.n + 1, lb := fun y => if y = a.n then l else a.lb y }

theorem Ok.new {a : Ar} (h : a.Ok) (l : Lb) : (a.new l).Ok :=
  ⟨Nat.succ_pos _, h.top, fun y hy => h.out y (by have : a.n + 1 ≤ y := hy; omega), h.link, h.one, h.rank⟩

/-- What a node has by itself is told anew. -/
def tell (a : Ar) (x : Nat) (l : Lb) : Ar := { a with lb := fun y => if y = x then l else a.lb y }
theorem Ok.tell {a : Ar} (h : a.Ok) (x : Nat) (l : Lb) : (a.tell x l).Ok := ⟨h.pos, h.top, h.out, h.link, h.one, h.rank⟩

/-- The first one: the Document. -/
def first : Ar := ⟨1, fun _ => (1, 0, ⟨#[]⟩, [], ⟨#[]⟩), fun _ => [], fun _ => none⟩
theorem first_ok : first.Ok := ⟨Nat.one_pos, rfl, fun _ _ => ⟨rfl, rfl⟩, fun _ _ => ⟨(fun h => by cases h), (fun h => by cases h)⟩, fun _ => List.nodup_nil, ⟨fun _ => 0, fun _ _ h => by cases h⟩⟩

/-- Numbers below n, each once, are no more than n. -/
theorem pig : ∀ (n : Nat) (l : List Nat), l.Nodup → (∀ x ∈ l, x < n) → l.length ≤ n
  | 0, l, _, hl => by
    cases l with
    | nil => exact Nat.le_refl _
    | cons x xs => exact absurd (hl x (List.mem_cons_self ..)) (Nat.not_lt_zero _)
  | n + 1, l, hn, hl => by
    have h1 := pig n (l.erase n) (hn.erase n) (fun x hx => by
      have h2 := hl x (List.mem_of_mem_erase hx)
      have h3 : x ≠ n := fun e => hn.not_mem_erase (e ▸ hx)
      omega)
    have h2 := List.length_erase (a := n) (l := l)
    split at h2 <;> omega

/-- Above a node stand fewer than there are. -/
theorem Ok.anc_lt {a : Ar} (h : a.Ok) : ∀ {k x y : Nat}, x < a.n → a.anc k x = some y → k < a.n := by
  have key : ∀ (k x y : Nat), x < a.n → a.anc k x = some y → ∃ l : List Nat, l.length = k + 1 ∧ l.Nodup ∧ (∀ z ∈ l, z < a.n ∧ a.Wn x z) := by
    intro k
    induction k with
    | zero => exact fun x y hx _ => ⟨[x], rfl, by simp, fun z hz => by rw [List.mem_singleton.1 hz]; exact ⟨hx, Wn.refl a x⟩⟩
    | succ k ih =>
      intro x y hx e
      cases hu : a.up x with
      | none => simp [anc, hu] at e
      | some q =>
        obtain ⟨l, h1, h2, h3⟩ := ih q y (h.lt hu).2 (by simpa [anc, hu] using e)
        refine ⟨x :: l, by simp [h1], List.nodup_cons.2 ⟨fun hm => h.not_up hu (h3 x hm).2, h2⟩, fun z hz => ?_⟩
        rcases List.mem_cons.1 hz with rfl | hz
        · exact ⟨hx, Wn.refl a z⟩
        · exact ⟨(h3 z hz).1, Wn.step hu (h3 z hz).2⟩
  intro k x y hx e
  obtain ⟨l, h1, h2, h3⟩ := key k x y hx e
  have := pig a.n l h2 (fun z hz => (h3 z hz).1)
  omega

/-- A node with all below it, ahead of a row: so many steps down. -/
def tr (a : Ar) : Nat → Nat → Fo → Fo
  | 0, x, r => .cons (a.lb x) .nil r
  | f + 1, x, r => .cons (a.lb x) ((a.kids x).foldr (a.tr f) .nil) r

/-- The row of a node's kids, with all below them. -/
def below (a : Ar) (x : Nat) : Fo := (a.kids x).foldr (a.tr a.n) .nil

theorem foldr_eq {f g : Nat → Fo → Fo} {l : List Nat} (h : ∀ x ∈ l, ∀ r, f x r = g x r) : l.foldr f .nil = l.foldr g .nil := by
  induction l with
  | nil => rfl
  | cons x xs ih =>
    rw [List.foldr_cons, List.foldr_cons, ih (fun y hy => h y (List.mem_cons_of_mem _ hy)), h x (List.mem_cons_self ..)]

/-- So many steps that none is cut off: all the same. -/
theorem Ok.tr_fuel {a : Ar} (h : a.Ok) : ∀ (f g k x : Nat) (y : Nat), x < a.n → a.anc k x = some y → a.n ≤ f + k → a.n ≤ g + k → ∀ r, a.tr f x r = a.tr g x r
  | 0, g, k, x, y, hx, e, hf, hg, r => absurd (h.anc_lt hx e) (by omega)
  | f + 1, 0, k, x, y, hx, e, hf, hg, r => absurd (h.anc_lt hx e) (by omega)
  | f + 1, g + 1, k, x, y, hx, e, hf, hg, r => by
    unfold tr
    rw [foldr_eq (f := a.tr f) (g := a.tr g) (fun c hc r => ?_)]
    have hu := (h.link x c).1 hc
    exact h.tr_fuel f g (k + 1) c y (h.lt hu).1 (by simp only [anc, hu, Option.bind_some, e]) (by omega) (by omega) r

/-- A node and all below it. -/
theorem Ok.tr_below {a : Ar} (h : a.Ok) {x : Nat} (hx : x < a.n) (r : Fo) : a.tr a.n x r = .cons (a.lb x) (a.below x) r := by
  rw [h.tr_fuel a.n (a.n + 1) 0 x x hx rfl (by omega) (by omega)]
  rfl

/-- The kids of a node, by what is below each. -/
theorem Ok.below_kids {a : Ar} (h : a.Ok) (x : Nat) : a.below x = (a.kids x).foldr (fun c r => .cons (a.lb c) (a.below c) r) .nil := by
  unfold below
  exact foldr_eq (fun c hc r => h.tr_below (h.kid_lt hc).1 r)

/-- What is below a node hangs on those nodes alone. -/
theorem tr_same {a b : Ar} : ∀ (f x : Nat), (∀ y, a.Wn y x → b.lb y = a.lb y ∧ b.kids y = a.kids y) → (∀ p y, y ∈ a.kids p → a.up y = some p) → ∀ r, b.tr f x r = a.tr f x r
  | 0, x, h, hl, r => by unfold tr; rw [(h x (Wn.refl a x)).1]
  | f + 1, x, h, hl, r => by
    unfold tr
    obtain ⟨h1, h2⟩ := h x (Wn.refl a x)
    rw [h1, h2, foldr_eq (f := b.tr f) (g := a.tr f) (fun c hc r => ?_)]
    exact tr_same f c (fun y hy => h y (hy.trans (Wn.step (hl x c hc) (Wn.refl a x)))) hl r

theorem Ok.below_same {a b : Ar} (h : a.Ok) (hb : b.Ok) (hn : b.n = a.n) {x : Nat} (hx : x < a.n) (e : ∀ y, a.Wn y x → b.lb y = a.lb y ∧ b.kids y = a.kids y) : b.below x = a.below x := by
  have h1 := tr_same a.n x e (fun p y => (h.link p y).1) .nil
  have h2 := h.tr_below hx .nil
  have h3 := hb.tr_below (x := x) (by omega) .nil
  rw [hn] at h3
  rw [h1, h2] at h3
  unfold Fo.cons at h3
  injection h3 with _ _ e2 _
  exact (congrFun e2 rfl).symm

/-- Taken away again, all is as it was. -/
theorem put_cut {a : Ar} (h : a.Ok) {p i x : Nat} (hu : a.up x = none) : (a.put p i x).cut x = a := by
  have hn : ∀ q, x ∉ a.kids q := fun q hq => by rw [(h.link q x).1 hq] at hu; cases hu
  have e1 : (a.put p i x).up x = Option.some p := by show (if x = x then _ else _) = _; rw [if_pos rfl]
  unfold Ar.cut
  simp only [e1]
  cases a with
  | mk n lb kids up =>
    simp only [put, Ar.mk.injEq, true_and]
    refine ⟨funext fun y => ?_, funext fun y => ?_⟩
    · by_cases hy : y = p
      · subst hy
        rw [if_pos rfl, if_pos rfl, List.erase_append_right _ (fun e => hn y (List.mem_of_mem_take e)), List.erase_cons_head, List.take_append_drop]
      · rw [if_neg (fun e => hy (Option.some.inj e).symm), if_neg hy]
    · by_cases hy : y = x
      · subst hy; rw [if_pos rfl]; exact hu.symm
      · rw [if_neg hy, if_neg hy]

end Ar
end Go.Proofs.YtgjkfpmhgidpaaaGreat

/-
  Arenas by themselves: Contents, and the calls: no program.
-/
namespace Go.Proofs.YtgjkfpmhgidpaaaGreat
set_option linter.unusedVariables false
set_option linter.unusedSimpArgs false

namespace Ar

/-- May have kids. -/
def hld (l : Lb) : Bool := decide (l.kind = 1) || decide (l.kind = 3) || decide (l.kind = 6)
/-- Stays where it is. -/
def fix (l : Lb) : Bool := decide (l.kind = 1) || decide (l.kind = 6)

/-- The Document alone is one; Contents are the first kids of templates, of each; none but some may have kids. -/
structure Ful (a : Ar) : Prop extends Ok a where
  doc : ∀ x, x < a.n → ((a.lb x).kind = 1 ↔ x = 0)
  con : ∀ x, x < a.n → (a.lb x).kind = 6 → ∃ p, (a.kids p).head? = some x ∧ tmplF (a.lb p) = true
  has : ∀ p, p < a.n → tmplF (a.lb p) = true → ∃ c, (a.kids p).head? = some c ∧ (a.lb c).kind = 6
  may : ∀ p, a.kids p ≠ [] → hld (a.lb p) = true

theorem fix_doc {l : Lb} (h : fix l = false) : l.kind ≠ 1 ∧ l.kind ≠ 6 := by simpa [fix] using h

theorem head_put {k : List Nat} {i x c : Nat} (h : k.head? = some c) (hi : i ≠ 0) : (k.take i ++ x :: k.drop i).head? = some c := by
  cases k with
  | nil => cases h
  | cons y ys =>
    cases i with
    | zero => exact absurd rfl hi
    | succ i => simpa using h

theorem head_cut {k : List Nat} {x c : Nat} (h : k.head? = some c) (hx : c ≠ x) : (k.erase x).head? = some c := by
  cases k with
  | nil => cases h
  | cons y ys =>
    obtain rfl : y = c := by simpa using h
    rw [List.erase_cons_tail (by simpa using hx)]
    rfl

theorem Ful.put {a : Ar} (h : a.Ful) {p i x : Nat} (hp : p < a.n) (hx : x < a.n) (hh : hld (a.lb p) = true) (hf : fix (a.lb x) = false) (hu : a.up x = none) (hw : ¬ a.Wn p x) (hi : tmplF (a.lb p) = true → i ≠ 0) : (a.put p i x).Ful := by
  have hd := fix_doc hf
  refine ⟨h.toOk.put hp hx (fun e => hd.1 ((h.doc x hx).2 e)) hu hw, h.doc, fun y hy hk => ?_, fun q hq ht => ?_, fun q hq => ?_⟩
  · obtain ⟨q, h1, h2⟩ := h.con y hy hk
    refine ⟨q, ?_, h2⟩
    show (if q = p then _ else _ : List Nat).head? = _
    by_cases e : q = p
    · subst e
      rw [if_pos rfl]; exact head_put h1 (hi h2)
    · rw [if_neg e]; exact h1
  · obtain ⟨c, h1, h2⟩ := h.has q hq ht
    refine ⟨c, ?_, h2⟩
    show (if q = p then _ else _ : List Nat).head? = _
    by_cases e : q = p
    · subst e
      rw [if_pos rfl]; exact head_put h1 (hi ht)
    · rw [if_neg e]; exact h1
  · by_cases e : q = p
    · rw [e]; exact hh
    · have hq' : (if q = p then _ else _ : List Nat) ≠ [] := hq
      rw [if_neg e] at hq'
      exact h.may q hq'

theorem Ful.cut {a : Ar} (h : a.Ful) {x : Nat} (hf : fix (a.lb x) = false) : (a.cut x).Ful := by
  have hd := fix_doc hf
  refine ⟨h.toOk.cut x, h.doc, fun y hy hk => ?_, fun q hq ht => ?_, fun q hq => ?_⟩
  · obtain ⟨q, h1, h2⟩ := h.con y hy hk
    refine ⟨q, ?_, h2⟩
    show (if a.up x = some q then _ else _ : List Nat).head? = _
    split
    · exact head_cut h1 (fun e => hd.2 (e ▸ hk))
    · exact h1
  · obtain ⟨c, h1, h2⟩ := h.has q hq ht
    refine ⟨c, ?_, h2⟩
    show (if a.up x = some q then _ else _ : List Nat).head? = _
    split
    · exact head_cut h1 (fun e => hd.2 (e ▸ h2))
    · exact h1
  · refine h.may q (fun e => hq ?_)
    show (if a.up x = some q then _ else _ : List Nat) = []
    rw [e]; split <;> rfl

theorem Ful.new {a : Ar} (h : a.Ful) {l : Lb} (hf : fix l = false) (ht : tmplF l = false) : (a.new l).Ful := by
  have hd := fix_doc hf
  have hn : ∀ y, y < a.n + 1 → y ≠ a.n → y < a.n := fun y h1 h2 => by omega
  have h0 := h.pos
  refine ⟨h.toOk.new l, fun y hy => ?_, fun y hy hk => ?_, fun q hq hq2 => ?_, fun q hq => ?_⟩
  · show ((if y = a.n then l else a.lb y) : Lb).kind = 1 ↔ y = 0
    by_cases e : y = a.n
    · rw [if_pos e]; exact ⟨fun e2 => absurd e2 hd.1, fun e2 => by omega⟩
    · rw [if_neg e]; exact h.doc y (hn y hy e)
  · replace hk : ((if y = a.n then l else a.lb y) : Lb).kind = 6 := hk
    by_cases e : y = a.n
    · rw [if_pos e] at hk; exact absurd hk hd.2
    · rw [if_neg e] at hk
      obtain ⟨q, h1, h2⟩ := h.con y (hn y hy e) hk
      refine ⟨q, h1, ?_⟩
      show tmplF (if q = a.n then l else a.lb q) = true
      rw [if_neg (fun e => by rw [e, (h.out a.n (Nat.le_refl _)).1] at h1; cases h1)]
      exact h2
  · replace hq2 : tmplF (if q = a.n then l else a.lb q) = true := hq2
    by_cases e : q = a.n
    · rw [if_pos e, ht] at hq2; cases hq2
    · rw [if_neg e] at hq2
      obtain ⟨c, h1, h2⟩ := h.has q (hn q hq e) hq2
      refine ⟨c, h1, ?_⟩
      show ((if c = a.n then l else a.lb c) : Lb).kind = 6
      have hc : c < a.n := (h.kid_lt (List.mem_of_mem_head? h1)).1
      rw [if_neg (by omega)]; exact h2
  · show hld (if q = a.n then l else a.lb q) = true
    rw [if_neg (fun e => hq (by rw [e]; exact (h.out a.n (Nat.le_refl _)).1))]
    exact h.may q hq

/-- A template, with its Content. -/
def newT (a : Ar) (l : Lb) : Ar := ((a.new l).new (6, 0, ⟨#[]⟩, [], ⟨#[]⟩)).put a.n 0 (a.n + 1)

theorem newT_lb (a : Ar) (l : Lb) (y : Nat) : (a.newT l).lb y = if y = a.n + 1 then (6, 0, ⟨#[]⟩, [], ⟨#[]⟩) else if y = a.n then l else a.lb y := rfl
theorem newT_kids {a : Ar} (h : a.Ok) (l : Lb) (y : Nat) : (a.newT l).kids y = if y = a.n then [a.n + 1] else a.kids y := by
  show (if y = a.n then (a.kids a.n).take 0 ++ (a.n + 1) :: (a.kids a.n).drop 0 else a.kids y) = _
  rw [(h.out a.n (Nat.le_refl _)).1]; rfl

theorem Ful.newT {a : Ar} (h : a.Ful) {l : Lb} (ht : tmplF l = true) : (a.newT l).Ful := by
  have hk : l.kind = 3 := by simp [tmplF] at ht; exact ht.1
  have h0 := h.pos
  have hu : ∀ x, a.n ≤ x → a.up x = none := fun x hx => (h.out x hx).2
  have hO : (a.newT l).Ok := by
    refine ((h.toOk.new l).new _).put (show a.n < a.n + 1 + 1 by omega) (show a.n + 1 < a.n + 1 + 1 by omega) (by omega) (hu _ (by omega)) (fun hw => ?_)
    have := (Wn.none (a := (a.new l).new (6, 0, ⟨#[]⟩, [], ⟨#[]⟩)) (x := a.n) (t := a.n + 1) (hu _ (Nat.le_refl _))).1 hw
    omega
  have hN : (a.newT l).n = a.n + 2 := rfl
  refine ⟨hO, fun y hy => ?_, fun y hy hk2 => ?_, fun q hq hq2 => ?_, fun q hq => ?_⟩
  · rw [newT_lb]
    split
    · rename_i e; exact ⟨fun e2 => by simp [Lb.kind] at e2, fun e2 => by omega⟩
    · split
      · rename_i e; exact ⟨fun e2 => (by rw [hk] at e2; exact absurd e2 (by decide)), fun e2 => by omega⟩
      · exact h.doc y (by omega)
  · rw [newT_lb] at hk2
    by_cases e : y = a.n + 1
    · exact ⟨a.n, by rw [newT_kids h.toOk, if_pos rfl, e]; rfl, by rw [newT_lb, if_neg (by omega), if_pos rfl]; exact ht⟩
    · rw [if_neg e] at hk2
      by_cases e2 : y = a.n
      · rw [if_pos e2, hk] at hk2; cases hk2
      · rw [if_neg e2] at hk2
        obtain ⟨q, h1, h2⟩ := h.con y (by omega) hk2
        have hq : q < a.n := (h.kid_lt (List.mem_of_mem_head? h1)).2
        exact ⟨q, by rw [newT_kids h.toOk, if_neg (by omega)]; exact h1, by rw [newT_lb, if_neg (by omega), if_neg (by omega)]; exact h2⟩
  · rw [newT_lb] at hq2
    by_cases e : q = a.n + 1
    · rw [if_pos e] at hq2; simp [tmplF, Lb.kind] at hq2
    · rw [if_neg e] at hq2
      by_cases e2 : q = a.n
      · exact ⟨a.n + 1, by rw [newT_kids h.toOk, if_pos e2]; rfl, by rw [newT_lb, if_pos rfl]⟩
      · rw [if_neg e2] at hq2
        obtain ⟨c, h1, h2⟩ := h.has q (by omega) hq2
        have hc : c < a.n := (h.kid_lt (List.mem_of_mem_head? h1)).1
        exact ⟨c, by rw [newT_kids h.toOk, if_neg e2]; exact h1, by rw [newT_lb, if_neg (by omega), if_neg (by omega)]; exact h2⟩
  · rw [newT_kids h.toOk] at hq
    by_cases e2 : q = a.n
    · rw [newT_lb, if_neg (by omega), if_pos e2]; simp [hld, hk]
    · rw [if_neg e2] at hq
      have hq3 : q < a.n := Nat.lt_of_not_le fun hle => hq (h.out q hle).1
      rw [newT_lb, if_neg (by omega), if_neg e2]
      exact h.may q hq

/-- Told anew, with the same Kind and of one sort. -/
theorem Ful.tell {a : Ar} (h : a.Ful) {x : Nat} {l : Lb} (hk : l.kind = (a.lb x).kind) (ht : tmplF l = tmplF (a.lb x)) : (a.tell x l).Ful := by
  have e1 : ∀ y, ((a.tell x l).lb y).kind = (a.lb y).kind := fun y => by
    show ((if y = x then l else a.lb y) : Lb).kind = _
    split
    · rename_i e; rw [e]; exact hk
    · rfl
  have e2 : ∀ y, tmplF ((a.tell x l).lb y) = tmplF (a.lb y) := fun y => by
    show tmplF (if y = x then l else a.lb y) = _
    split
    · rename_i e; rw [e]; exact ht
    · rfl
  refine ⟨h.toOk.tell x l, fun y hy => by rw [e1]; exact h.doc y hy, fun y hy hk => ?_, fun q hq hq2 => ?_, fun q hq => ?_⟩
  · rw [e1] at hk
    obtain ⟨q, h1, h2⟩ := h.con y hy hk
    exact ⟨q, h1, by rw [e2]; exact h2⟩
  · rw [e2] at hq2
    obtain ⟨c, h1, h2⟩ := h.has q hq hq2
    exact ⟨c, h1, by rw [e1]; exact h2⟩
  · have := h.may q hq
    unfold hld at this ⊢
    rw [e1]; exact this

theorem first_ful : first.Ful := ⟨first_ok, fun x hx => ⟨fun _ => by have : x < 1 := hx; omega, fun _ => rfl⟩, fun x _ hk => by simp [first, Lb.kind] at hk, fun p _ ht => by simp [first, tmplF, Lb.kind] at ht, fun p hp => absurd rfl hp⟩

end Ar
end Go.Proofs.YtgjkfpmhgidpaaaGreat

/-
  Arenas by themselves: the calls, one by one: no program.
-/
namespace Go.Proofs.YtgjkfpmhgidpaaaGreat
set_option linter.unusedVariables false
set_option linter.unusedSimpArgs false

namespace Ar

/-- Is x the node t, or below it (told by going up)? -/
def wn (a : Ar) (x t : Nat) : Bool := (List.range a.n).any fun k => a.anc k x == some t

theorem wn_iff {a : Ar} (h : a.Ok) {x t : Nat} (hx : x < a.n) : a.wn x t = true ↔ a.Wn x t := by
  unfold wn
  rw [List.any_eq_true]
  constructor
  · rintro ⟨k, _, e⟩
    exact ⟨k, by simpa using e⟩
  · rintro ⟨k, e⟩
    exact ⟨k, List.mem_range.2 (h.anc_lt hx e), by simpa using e⟩

theorem wn_false {a : Ar} (h : a.Ok) {x t : Nat} (hx : x < a.n) (e : a.wn x t = false) : ¬ a.Wn x t := fun hw => by
  rw [(wn_iff h hx).2 hw] at e; cases e

/-- Is there such a node? -/
def there (a : Ar) (z : Int) : Bool := decide (0 ≤ z ∧ z < a.n)
theorem there_lt {a : Ar} {z : Int} (h : a.there z = true) : z.toNat < a.n ∧ (z.toNat : Int) = z := by
  simp only [there, decide_eq_true_eq] at h; omega

/-- Make (u: its attributes, each name once). -/
def mkF (a : Ar) (kind ns : Int) (name : ByteArray) (u : List Att) (text : ByteArray) : Ar × Int × Int :=
  if kind < 2 ∨ 5 < kind then (a, 0, 23)
  else if kind = 3 then
    if (ns ≠ 1 ∧ ns ≠ 2) ∨ name.size = 0 then (a, 0, 12)
    else if tmplF (3, ns, name, u, ⟨#[]⟩) then (a.newT (3, ns, name, u, ⟨#[]⟩), a.n, 0)
    else (a.new (3, ns, name, u, ⟨#[]⟩), a.n, 0)
  else if kind = 2 then (a.new (2, 0, name, [], ⟨#[]⟩), a.n, 0)
  else (a.new (kind, 0, ⟨#[]⟩, [], text), a.n, 0)

theorem Ful.mkF {a : Ar} (h : a.Ful) (kind ns : Int) (name : ByteArray) (u : List Att) (text : ByteArray) : (a.mkF kind ns name u text).1.Ful := by
  unfold Ar.mkF
  split
  · exact h
  rename_i h1
  split
  · split
    · exact h
    split
    · rename_i ht; exact h.newT ht
    · rename_i ht; exact h.new (by simp [fix, Lb.kind]) (by simpa using ht)
  rename_i h3
  split
  · exact h.new (by simp [fix, Lb.kind]) (by simp [tmplF, Lb.kind])
  · exact h.new (by simp [fix, Lb.kind]; omega) (by simp [tmplF, Lb.kind]; omega)

/-- Append. -/
def appF (a : Ar) (p x : Int) : Ar × Int :=
  if a.there p = false ∨ a.there x = false then (a, 22)
  else if hld (a.lb p.toNat) = false ∨ fix (a.lb x.toNat) = true then (a, 23)
  else if a.up x.toNat ≠ none then (a, 24)
  else if a.wn p.toNat x.toNat = true then (a, 26)
  else (a.put p.toNat (a.kids p.toNat).length x.toNat, 0)

theorem Ful.tmpl_pos {a : Ar} (h : a.Ful) {p : Nat} (hp : p < a.n) (ht : tmplF (a.lb p) = true) : (a.kids p).length ≠ 0 := fun e => by
  obtain ⟨c, h1, _⟩ := h.has p hp ht
  rw [List.length_eq_zero_iff.1 e] at h1; cases h1

theorem Ful.appF {a : Ar} (h : a.Ful) (p x : Int) : (a.appF p x).1.Ful := by
  unfold Ar.appF
  split
  · exact h
  rename_i h1
  split
  · exact h
  rename_i h2
  split
  · exact h
  rename_i h3
  split
  · exact h
  rename_i h4
  simp only [not_or, Bool.not_eq_false, Bool.not_eq_true] at h1 h2 h4
  have hp := (there_lt h1.1).1
  exact h.put hp (there_lt h1.2).1 h2.1 h2.2 (by simpa using h3) (wn_false h.toOk hp h4) (fun ht => h.tmpl_pos hp ht)

/-- Where a node stands among its parent's kids. -/
def place (a : Ar) (p x : Nat) : Nat := (a.kids p).idxOf x

theorem Ful.place_pos {a : Ar} (h : a.Ful) {p x : Nat} (hu : a.up x = some p) (hf : fix (a.lb x) = false) (ht : tmplF (a.lb p) = true) : a.place p x ≠ 0 := fun e => by
  obtain ⟨c, h1, h2⟩ := h.has p (h.lt hu).2 ht
  have hm := (h.link p x).2 hu
  have hd := fix_doc hf
  unfold place at e
  cases hk : a.kids p with
  | nil => rw [hk] at hm; cases hm
  | cons y ys =>
    rw [hk] at h1 e
    obtain rfl : y = c := by simpa using h1
    rw [List.idxOf_cons] at e
    by_cases hy : y = x
    · rw [hy] at h2; exact hd.2 h2
    · have hb : (y == x) = false := by simpa using hy
      rw [hb] at e
      exact absurd e (by simp)

/-- Before. -/
def befF (a : Ar) (r x : Int) : Ar × Int :=
  if a.there r = false ∨ a.there x = false then (a, 22)
  else match a.up r.toNat with
  | none => (a, 23)
  | some p =>
    if fix (a.lb r.toNat) = true ∨ fix (a.lb x.toNat) = true then (a, 23)
    else if a.up x.toNat ≠ none then (a, 24)
    else if a.wn r.toNat x.toNat = true then (a, 26)
    else (a.put p (a.place p r.toNat) x.toNat, 0)

theorem Ful.up_hld {a : Ar} (h : a.Ful) {p x : Nat} (hu : a.up x = some p) : hld (a.lb p) = true :=
  h.may p (List.ne_nil_of_mem ((h.link p x).2 hu))

theorem Ful.befF {a : Ar} (h : a.Ful) (r x : Int) : (a.befF r x).1.Ful := by
  unfold Ar.befF
  split
  · exact h
  rename_i h1
  split
  · exact h
  rename_i p hu
  split
  · exact h
  rename_i h2
  split
  · exact h
  rename_i h3
  split
  · exact h
  rename_i h4
  simp only [not_or, Bool.not_eq_false, Bool.not_eq_true] at h1 h2 h4
  have hr := (there_lt h1.1).1
  have hw := wn_false h.toOk hr h4
  exact h.put (h.lt hu).2 (there_lt h1.2).1 (h.up_hld hu) h2.2 (by simpa using h3) (fun hp => hw (Wn.step hu hp)) (fun ht => h.place_pos hu h2.1 ht)

/-- Detach. -/
def detF (a : Ar) (x : Int) : Ar × Int :=
  if a.there x = false then (a, 22) else if fix (a.lb x.toNat) = true then (a, 23) else (a.cut x.toNat, 0)

theorem Ful.detF {a : Ar} (h : a.Ful) (x : Int) : (a.detF x).1.Ful := by
  unfold Ar.detF
  split
  · exact h
  split
  · exact h
  · rename_i h2; exact h.cut (by simpa using h2)

/-- A node to the end of another's kids. -/
def shift (a : Ar) (t x : Nat) : Ar := (a.cut x).put t ((a.cut x).kids t).length x

theorem shift_up {a : Ar} {t x y : Nat} (hy : y ≠ x) : (a.shift t x).up y = a.up y := by
  show (if y = x then _ else if y = x then _ else _) = _
  rw [if_neg hy, if_neg hy]

theorem shift_wn {a : Ar} {f t x y : Nat} (hu : a.up x = some f) (hw : ¬ a.Wn t f) (hy : a.Wn t y) (h : (a.shift t x).Wn y f) : a.Wn y f := by
  obtain ⟨k, e⟩ := h
  induction k generalizing y with
  | zero => exact ⟨0, e⟩
  | succ k ih =>
    have hyx : y ≠ x := fun e => hw ((e ▸ hy).trans (Wn.step hu (Wn.refl a f)))
    cases hq : a.up y with
    | none => simp [anc, shift_up hyx, hq] at e
    | some q => exact Wn.step hq (ih (hy.trans (Wn.step hq (Wn.refl a q))) (by simpa [anc, shift_up hyx, hq] using e))

theorem Ful.shift {a : Ar} (h : a.Ful) {f t x : Nat} (hu : a.up x = some f) (hf : fix (a.lb x) = false) (ht : t < a.n) (hh : hld (a.lb t) = true) (hw : ¬ a.Wn t f) : (a.shift t x).Ful :=
  (h.cut hf).put ht (h.lt hu).1 hh hf (by show (if x = x then _ else _) = none; rw [if_pos rfl]) (fun hw2 => hw ((cut_wn hw2).trans (Wn.step hu (Wn.refl a f)))) (fun htm => (h.cut hf).tmpl_pos ht htm)

/-- The kids of one, but a Content, to another. -/
def movs (a : Ar) (t : Nat) : List Nat → Ar
  | [] => a
  | x :: xs => if (a.lb x).kind = 6 then a.movs t xs else (a.shift t x).movs t xs

theorem Ful.movs {f t : Nat} : ∀ (xs : List Nat) (a : Ar), a.Ful → xs.Nodup → (∀ x ∈ xs, a.up x = some f) → t < a.n → hld (a.lb t) = true → ¬ a.Wn t f → (a.movs t xs).Ful ∧ (a.movs t xs).n = a.n ∧ (a.movs t xs).lb = a.lb
  | [], a, h, _, _, _, _, _ => ⟨h, rfl, rfl⟩
  | x :: xs, a, h, hn, hx, ht, hh, hw => by
    have hn' := List.nodup_cons.1 hn
    have hu := hx x (List.mem_cons_self ..)
    unfold Ar.movs
    split
    · exact Ful.movs xs a h hn'.2 (fun y hy => hx y (List.mem_cons_of_mem _ hy)) ht hh hw
    · rename_i h6
      have h1 : (a.lb x).kind ≠ 1 := fun e => by
        have := (h.doc x (h.lt hu).1).1 e
        rw [this, h.top] at hu; cases hu
      have hf : fix (a.lb x) = false := by simp [fix, h1, h6]
      exact Ful.movs xs (a.shift t x) (h.shift hu hf ht hh hw) hn'.2 (fun y hy => by
        have hyx : y ≠ x := fun e => hn'.1 (e ▸ hy)
        rw [shift_up hyx]; exact hx y (List.mem_cons_of_mem _ hy)) ht hh (fun hw2 => hw (shift_wn hu hw (Wn.refl a t) hw2))

/-- Move. -/
def movF (a : Ar) (f t : Int) : Ar × Int :=
  if a.there f = false ∨ a.there t = false then (a, 22)
  else if hld (a.lb f.toNat) = false ∨ hld (a.lb t.toNat) = false then (a, 23)
  else if a.wn t.toNat f.toNat = true then (a, 26)
  else (a.movs t.toNat (a.kids f.toNat), 0)

theorem Ful.movF {a : Ar} (h : a.Ful) (f t : Int) : (a.movF f t).1.Ful := by
  unfold Ar.movF
  split
  · exact h
  rename_i h1
  split
  · exact h
  rename_i h2
  split
  · exact h
  rename_i h4
  simp only [not_or, Bool.not_eq_false, Bool.not_eq_true] at h1 h2 h4
  have ht := (there_lt h1.2).1
  exact (Ful.movs (f := f.toNat) _ a h (h.one _) (fun x hx => (h.link _ x).1 hx) ht h2.2 (wn_false h.toOk ht h4)).1

/-- A text at a place among the kids of p. -/
def txt (a : Ar) (p i : Nat) (s : ByteArray) : Ar :=
  if s.size = 0 ∨ (a.lb p).kind = 1 then a
  else match (if i = 0 then none else (a.kids p)[i - 1]?) with
  | some k => if (a.lb k).kind = 4 then a.tell k (4, (a.lb k).ns, (a.lb k).name, (a.lb k).attrs, (a.lb k).text ++ s) else (a.new (4, 0, ⟨#[]⟩, [], s)).put p i a.n
  | none => (a.new (4, 0, ⟨#[]⟩, [], s)).put p i a.n

theorem Ful.txt_new {a : Ar} (h : a.Ful) {p i : Nat} (s : ByteArray) (hp : p < a.n) (hh : hld (a.lb p) = true) (hi : tmplF (a.lb p) = true → i ≠ 0) : ((a.new (4, 0, ⟨#[]⟩, [], s)).put p i a.n).Ful := by
  have hl : (a.new (4, 0, ⟨#[]⟩, [], s)).lb p = a.lb p := by show (if p = a.n then _ else _) = _; rw [if_neg (by omega)]
  have hl2 : (a.new (4, 0, ⟨#[]⟩, [], s)).lb a.n = (4, 0, ⟨#[]⟩, [], s) := by show (if a.n = a.n then _ else _) = _; rw [if_pos rfl]
  have hw : ∀ k y, a.anc k y = (a.new (4, 0, ⟨#[]⟩, [], s)).anc k y := fun k => by
    induction k with
    | zero => exact fun _ => rfl
    | succ k ih =>
      intro y
      show (a.up y).bind (a.anc k) = (a.up y).bind ((a.new (4, 0, ⟨#[]⟩, [], s)).anc k)
      cases a.up y with
      | none => rfl
      | some q => exact ih q
  refine (h.new (l := (4, 0, ⟨#[]⟩, [], s)) (by simp [fix, Lb.kind]) (by simp [tmplF, Lb.kind])).put (show p < a.n + 1 by omega) (show a.n < a.n + 1 by omega) (by rw [hl]; exact hh) (by rw [hl2]; simp [fix, Lb.kind]) (h.out a.n (Nat.le_refl _)).2 ?_ (by rw [hl]; exact hi)
  rintro ⟨k, e⟩
  rw [← hw] at e
  have : ∀ k y z, y < a.n → a.anc k y = some z → z < a.n := fun k => by
    induction k with
    | zero => intro y z hy e; obtain rfl : y = z := by simpa [anc] using e
              exact hy
    | succ k ih =>
      intro y z hy e
      cases hu : a.up y with
      | none => simp [anc, hu] at e
      | some q => exact ih q z (h.lt hu).2 (by simpa [anc, hu] using e)
  exact absurd (this k p a.n hp e) (Nat.lt_irrefl _)

theorem Ful.txt {a : Ar} (h : a.Ful) {p i : Nat} (s : ByteArray) (hp : p < a.n) (hh : hld (a.lb p) = true) (hi : tmplF (a.lb p) = true → i ≠ 0) : (a.txt p i s).Ful := by
  unfold Ar.txt
  split
  · exact h
  split
  · split
    · rename_i k _ hk
      exact h.tell (by simp [Lb.kind, hk]) (by simp [tmplF, Lb.kind, hk])
    · exact h.txt_new s hp hh hi
  · exact h.txt_new s hp hh hi

/-- Write. -/
def wrF (a : Ar) (p : Int) (s : ByteArray) : Ar × Int :=
  if a.there p = false then (a, 22) else if hld (a.lb p.toNat) = false then (a, 23) else (a.txt p.toNat (a.kids p.toNat).length s, 0)

theorem Ful.wrF {a : Ar} (h : a.Ful) (p : Int) (s : ByteArray) : (a.wrF p s).1.Ful := by
  unfold Ar.wrF
  split
  · exact h
  split
  · exact h
  rename_i h1 h2
  have hp := (there_lt (by simpa using h1)).1
  exact h.txt s hp (by simpa using h2) (fun ht => h.tmpl_pos hp ht)

/-- WriteBefore. -/
def wbF (a : Ar) (r : Int) (s : ByteArray) : Ar × Int :=
  if a.there r = false then (a, 22)
  else match a.up r.toNat with
  | none => (a, 23)
  | some p => if fix (a.lb r.toNat) = true then (a, 23) else (a.txt p (a.place p r.toNat) s, 0)

theorem Ful.wbF {a : Ar} (h : a.Ful) (r : Int) (s : ByteArray) : (a.wbF r s).1.Ful := by
  unfold Ar.wbF
  split
  · exact h
  split
  · exact h
  rename_i p hu
  split
  · exact h
  rename_i h2
  exact h.txt s (h.lt hu).2 (h.up_hld hu) (fun ht => h.place_pos hu (by simpa using h2) ht)

/-- More (g: what becomes of its attributes). -/
def morF (a : Ar) (x : Int) (g : List Att → List Att) : Ar × Int :=
  if a.there x = false then (a, 22)
  else if (a.lb x.toNat).kind ≠ 3 then (a, 23)
  else (a.tell x.toNat (3, (a.lb x.toNat).ns, (a.lb x.toNat).name, g (a.lb x.toNat).attrs, (a.lb x.toNat).text), 0)

theorem Ful.morF {a : Ar} (h : a.Ful) (x : Int) (g : List Att → List Att) : (a.morF x g).1.Ful := by
  unfold Ar.morF
  split
  · exact h
  split
  · exact h
  rename_i h2
  have h3 : (a.lb x.toNat).kind = 3 := by simpa using h2
  exact h.tell (by simp [Lb.kind] at h3 ⊢; exact h3.symm) (by simp [tmplF, Lb.kind, Lb.ns, Lb.name] at h3 ⊢; simp [h3])

end Ar
end Go.Proofs.YtgjkfpmhgidpaaaGreat

/-
  Kids as a chain: each node with its parent, its first and last kid, and those right ahead of it and behind it: no program.
-/
namespace Go.Proofs.YtgjkfpmhgidpaaaGreat
set_option linter.unusedVariables false
set_option linter.unusedSimpArgs false

/-- The first of some numbers, -1 of none. -/
def hdI : List Nat → Int
  | [] => -1
  | x :: _ => x
/-- The last of some numbers, p of none. -/
def laG (p : Int) : List Nat → Int
  | [] => p
  | y :: r => laG y r
def laI (k : List Nat) : Int := laG (-1) k
/-- The one right ahead of x, p ahead of the first. -/
def befG (p : Int) : List Nat → Nat → Int
  | [], _ => -1
  | y :: r, x => if y = x then p else befG y r x
def bef (k : List Nat) (x : Nat) : Int := befG (-1) k x
/-- The one right behind x. -/
def aft : List Nat → Nat → Int
  | [], _ => -1
  | y :: r, x => if y = x then hdI r else aft r x

theorem hdI_neg {k : List Nat} : hdI k = -1 ↔ k = [] := by
  cases k with
  | nil => exact ⟨fun _ => rfl, fun _ => rfl⟩
  | cons x r => exact ⟨fun h => by have : (x : Int) = -1 := h; omega, fun h => by cases h⟩
theorem laG_nat (p : Nat) : ∀ k : List Nat, ∃ z : Nat, laG p k = z ∧ z ∈ p :: k
  | [] => ⟨p, rfl, by simp⟩
  | y :: r => by
    obtain ⟨z, h1, h2⟩ := laG_nat y r
    exact ⟨z, h1, List.mem_cons_of_mem _ h2⟩
theorem laI_cons (y : Nat) (r : List Nat) : ∃ z : Nat, laI (y :: r) = z ∧ z ∈ y :: r := laG_nat y r
theorem laI_neg {k : List Nat} : laI k = -1 ↔ k = [] := by
  cases k with
  | nil => exact ⟨fun _ => rfl, fun _ => rfl⟩
  | cons x r =>
    obtain ⟨z, h1, _⟩ := laI_cons x r
    exact ⟨fun h => by omega, fun h => by cases h⟩
theorem laG_app (p : Int) : ∀ (k : List Nat) (x : Nat) (r : List Nat), laG p (k ++ x :: r) = laG x r
  | [], _, _ => rfl
  | y :: k, x, r => laG_app y k x r
theorem laI_app (k : List Nat) (x : Nat) (r : List Nat) : laI (k ++ x :: r) = laI (x :: r) := laG_app _ k x r
theorem laI_mem {k : List Nat} {y : Nat} (h : laI k = y) : y ∈ k := by
  cases k with
  | nil => have : (-1 : Int) = y := h; omega
  | cons x r =>
    obtain ⟨z, h1, h2⟩ := laI_cons x r
    have : z = y := by omega
    exact this ▸ h2
theorem hdI_mem {k : List Nat} {y : Nat} (h : hdI k = y) : y ∈ k := by
  cases k with
  | nil => have : (-1 : Int) = y := h; omega
  | cons x r => have : (x : Int) = y := h; have : x = y := by omega
                simp [this]

theorem befG_at (p : Int) : ∀ (k1 : List Nat) (x : Nat) (k2 : List Nat), x ∉ k1 → befG p (k1 ++ x :: k2) x = laG p k1
  | [], x, k2, _ => by simp [befG, laG]
  | y :: r, x, k2, h => by
    have h1 : y ≠ x := fun e => h (by simp [e])
    simp only [List.cons_append, befG, if_neg h1, laG]
    exact befG_at y r x k2 (fun hm => h (List.mem_cons_of_mem _ hm))
theorem bef_at {k1 : List Nat} {x : Nat} {k2 : List Nat} (h : x ∉ k1) : bef (k1 ++ x :: k2) x = laI k1 := befG_at _ k1 x k2 h

theorem befG_put (p : Int) : ∀ (k1 k2 : List Nat) (x y : Nat), y ≠ x → (k1 ++ k2).Nodup → befG p (k1 ++ x :: k2) y = if hdI k2 = (y : Int) then (x : Int) else befG p (k1 ++ k2) y
  | [], k2, x, y, h, hn => by
    simp only [List.nil_append, befG, if_neg (Ne.symm h)]
    cases k2 with
    | nil => rw [if_neg (show ¬ hdI [] = (y : Int) by show ¬ (-1 : Int) = y; omega)]; rfl
    | cons z r =>
      show (if z = y then (x : Int) else befG z r y) = if (z : Int) = y then (x : Int) else (if z = y then p else befG z r y)
      by_cases e : z = y
      · rw [if_pos e, if_pos (by omega)]
      · rw [if_neg e, if_neg (by omega), if_neg e]
  | z :: r, k2, x, y, h, hn => by
    simp only [List.cons_append, befG]
    have hn' := List.nodup_cons.1 hn
    by_cases e : z = y
    · rw [if_pos e, if_pos e, if_neg (fun e2 => hn'.1 (by rw [e]; exact List.mem_append_right _ (hdI_mem e2)))]
    · rw [if_neg e, if_neg e]
      exact befG_put z r k2 x y h hn'.2
theorem bef_put {k1 k2 : List Nat} {x y : Nat} (h : y ≠ x) (hn : (k1 ++ k2).Nodup) : bef (k1 ++ x :: k2) y = if hdI k2 = (y : Int) then (x : Int) else bef (k1 ++ k2) y := befG_put _ k1 k2 x y h hn

theorem aft_at : ∀ {k1 : List Nat} {x : Nat} {k2 : List Nat}, x ∉ k1 → aft (k1 ++ x :: k2) x = hdI k2
  | [], x, k2, _ => by simp [aft]
  | y :: r, x, k2, h => by
    have h1 : y ≠ x := fun e => h (by simp [e])
    simp only [List.cons_append, aft, if_neg h1]
    exact aft_at (fun hm => h (List.mem_cons_of_mem _ hm))
theorem aft_put : ∀ {k1 k2 : List Nat} {x y : Nat}, y ≠ x → (k1 ++ k2).Nodup → aft (k1 ++ x :: k2) y = if laI k1 = (y : Int) then (x : Int) else aft (k1 ++ k2) y
  | [], k2, x, y, h, hn => by
    rw [if_neg (show ¬ laI [] = (y : Int) by show ¬ (-1 : Int) = y; omega)]
    simp only [List.nil_append, aft, if_neg (Ne.symm h)]
  | [z], k2, x, y, h, hn => by
    simp only [List.cons_append, List.nil_append, aft, if_neg (Ne.symm h), hdI]
    have e0 : laI [z] = (z : Int) := rfl
    rw [e0]
    by_cases e : z = y
    · rw [if_pos e, if_pos (by omega)]
    · rw [if_neg e, if_neg (by omega), if_neg e]
  | z :: z2 :: r, k2, x, y, h, hn => by
    have hn' := List.nodup_cons.1 hn
    have e0 : laI (z :: z2 :: r) = laI (z2 :: r) := rfl
    have ih := aft_put (k1 := z2 :: r) (k2 := k2) h hn'.2
    rw [e0]
    show (if z = y then hdI (z2 :: r ++ x :: k2) else aft (z2 :: r ++ x :: k2) y) = if _ then _ else (if z = y then hdI (z2 :: r ++ k2) else aft (z2 :: r ++ k2) y)
    by_cases e : z = y
    · rw [if_pos e, if_pos e, if_neg (fun e2 => hn'.1 (by rw [e]; exact List.mem_append_left _ (laI_mem e2)))]
      rfl
    · rw [if_neg e, if_neg e]; exact ih

theorem hdI_put (k1 k2 : List Nat) (x : Nat) : hdI (k1 ++ x :: k2) = if laI k1 = -1 then (x : Int) else hdI (k1 ++ k2) := by
  cases k1 with
  | nil => rfl
  | cons y r => rw [if_neg (fun e => by have := laI_neg.1 e; cases this)]; rfl
theorem laI_put (k1 k2 : List Nat) (x : Nat) : laI (k1 ++ x :: k2) = if hdI k2 = -1 then (x : Int) else laI (k1 ++ k2) := by
  cases k2 with
  | nil => rw [laI_app]; rfl
  | cons y r =>
    rw [if_neg (fun e => by have := hdI_neg.1 e; cases this), laI_app, laI_app]; rfl

theorem hdI_nil : hdI [] = -1 := rfl
theorem laI_nil : laI [] = -1 := rfl
theorem laI_split {k : List Nat} {z : Nat} (h : laI k = (z : Int)) : ∃ k3, k = k3 ++ [z] := by
  rcases List.eq_nil_or_concat k with rfl | ⟨L, b, rfl⟩
  · rw [laI_nil] at h; omega
  · rw [List.concat_eq_append, laI_app] at h
    have : (b : Int) = z := h
    obtain rfl : b = z := by omega
    exact ⟨L, by simp⟩
theorem aft_last {k1 k2 : List Nat} {z : Nat} (h : laI k1 = (z : Int)) (hn : (k1 ++ k2).Nodup) : aft (k1 ++ k2) z = hdI k2 := by
  obtain ⟨k3, rfl⟩ := laI_split h
  rw [List.append_assoc, List.singleton_append]
  refine aft_at (fun hm => ?_)
  rw [List.append_assoc, List.nodup_append] at hn
  exact hn.2.2 z hm z (by simp) rfl

/-- A node of the list: what it has by itself; its parent, first kid, last kid, the one ahead of it, the one behind it. -/
structure Pn where
  lb : Lb
  up : Int
  fi : Int
  la : Int
  ah : Int
  be : Int

theorem Pn.eq {x y : Pn} (h1 : x.lb = y.lb) (h2 : x.up = y.up) (h3 : x.fi = y.fi) (h4 : x.la = y.la) (h5 : x.ah = y.ah) (h6 : x.be = y.be) : x = y := by
  cases x; cases y; simp only at h1 h2 h3 h4 h5 h6; subst h1 h2 h3 h4 h5 h6; rfl

def sUp (N : Nat → Pn) (x : Nat) (v : Int) : Nat → Pn := fun i => if i = x then ⟨(N x).lb, v, (N x).fi, (N x).la, (N x).ah, (N x).be⟩ else N i
def sFi (N : Nat → Pn) (x : Nat) (v : Int) : Nat → Pn := fun i => if i = x then ⟨(N x).lb, (N x).up, v, (N x).la, (N x).ah, (N x).be⟩ else N i
def sLa (N : Nat → Pn) (x : Nat) (v : Int) : Nat → Pn := fun i => if i = x then ⟨(N x).lb, (N x).up, (N x).fi, v, (N x).ah, (N x).be⟩ else N i
def sAh (N : Nat → Pn) (x : Nat) (v : Int) : Nat → Pn := fun i => if i = x then ⟨(N x).lb, (N x).up, (N x).fi, (N x).la, v, (N x).be⟩ else N i
def sBe (N : Nat → Pn) (x : Nat) (v : Int) : Nat → Pn := fun i => if i = x then ⟨(N x).lb, (N x).up, (N x).fi, (N x).la, (N x).ah, v⟩ else N i
def sLb (N : Nat → Pn) (x : Nat) (v : Lb) : Nat → Pn := fun i => if i = x then ⟨v, (N x).up, (N x).fi, (N x).la, (N x).ah, (N x).be⟩ else N i

/-- One kid right ahead of another. -/
def joinA (N : Nat → Pn) (p : Nat) (a b : Int) : Nat → Pn := if a = -1 then sFi N p b else sBe N a.toNat b
def joinB (N : Nat → Pn) (p : Nat) (a b : Int) : Nat → Pn := if b = -1 then sLa N p a else sAh N b.toNat a
def joinF (N : Nat → Pn) (p : Nat) (a b : Int) : Nat → Pn := joinB (joinA N p a b) p a b

def aheadF (N : Nat → Pn) (p : Nat) (r : Int) : Int := if r = -1 then (N p).la else (N r.toNat).ah
def linkF (N : Nat → Pn) (p : Nat) (r : Int) (x : Nat) : Nat → Pn := joinF (joinF (sUp N x p) p (aheadF N p r) x) p x r
def unlinkF (N : Nat → Pn) (p x : Nat) : Nat → Pn := sBe (sAh (sUp (joinF N p (N x).ah (N x).be) x (-1)) x (-1)) x (-1)

theorem joinF_lb (N : Nat → Pn) (p : Nat) (a b : Int) (y : Nat) : (joinF N p a b y).lb = (N y).lb := by
  unfold joinF joinB joinA sFi sBe sLa sAh
  by_cases h1 : a = -1 <;> by_cases h2 : b = -1 <;> simp only [h1, h2, if_true, if_false] <;> (repeat' split) <;> simp_all
theorem joinF_up (N : Nat → Pn) (p : Nat) (a b : Int) (y : Nat) : (joinF N p a b y).up = (N y).up := by
  unfold joinF joinB joinA sFi sBe sLa sAh
  by_cases h1 : a = -1 <;> by_cases h2 : b = -1 <;> simp only [h1, h2, if_true, if_false] <;> (repeat' split) <;> simp_all
theorem joinF_fi (N : Nat → Pn) (p : Nat) (a b : Int) (y : Nat) : (joinF N p a b y).fi = if a = -1 ∧ y = p then b else (N y).fi := by
  unfold joinF joinB joinA sFi sBe sLa sAh
  by_cases h1 : a = -1 <;> by_cases h2 : b = -1 <;> simp only [h1, h2, if_true, if_false, true_and, false_and] <;> (repeat' split) <;> simp_all
theorem joinF_la (N : Nat → Pn) (p : Nat) (a b : Int) (y : Nat) : (joinF N p a b y).la = if b = -1 ∧ y = p then a else (N y).la := by
  unfold joinF joinB joinA sFi sBe sLa sAh
  by_cases h1 : a = -1 <;> by_cases h2 : b = -1 <;> simp only [h1, h2, if_true, if_false, true_and, false_and] <;> (repeat' split) <;> simp_all
theorem joinF_be (N : Nat → Pn) (p : Nat) (a b : Int) (y : Nat) : (joinF N p a b y).be = if a ≠ -1 ∧ y = a.toNat then b else (N y).be := by
  unfold joinF joinB joinA sFi sBe sLa sAh
  by_cases h1 : a = -1 <;> by_cases h2 : b = -1 <;> simp only [h1, h2, if_true, if_false, true_and, false_and, ne_eq, not_true, not_false_iff] <;> (repeat' split) <;> simp_all
theorem joinF_ah (N : Nat → Pn) (p : Nat) (a b : Int) (y : Nat) : (joinF N p a b y).ah = if b ≠ -1 ∧ y = b.toNat then a else (N y).ah := by
  unfold joinF joinB joinA sFi sBe sLa sAh
  by_cases h1 : a = -1 <;> by_cases h2 : b = -1 <;> simp only [h1, h2, if_true, if_false, true_and, false_and, ne_eq, not_true, not_false_iff] <;> (repeat' split) <;> simp_all

namespace Ar

def upI : Option Nat → Int
  | none => -1
  | some p => p

/-- The chain of an arena. -/
def raw (a : Ar) (y : Nat) : Pn :=
  ⟨a.lb y, upI (a.up y), hdI (a.kids y), laI (a.kids y), (match a.up y with | none => -1 | some p => bef (a.kids p) y), (match a.up y with | none => -1 | some p => aft (a.kids p) y)⟩

theorem raw_ah {a : Ar} {y p : Nat} (h : a.up y = some p) : (a.raw y).ah = bef (a.kids p) y := by simp only [raw, h]
theorem raw_be {a : Ar} {y p : Nat} (h : a.up y = some p) : (a.raw y).be = aft (a.kids p) y := by simp only [raw, h]
theorem raw_ah_none {a : Ar} {y : Nat} (h : a.up y = none) : (a.raw y).ah = -1 := by simp only [raw, h]
theorem raw_be_none {a : Ar} {y : Nat} (h : a.up y = none) : (a.raw y).be = -1 := by simp only [raw, h]

theorem Ok.split {a : Ar} (h : a.Ok) {p y : Nat} (hu : a.up y = some p) : ∃ k1 k2, a.kids p = k1 ++ y :: k2 ∧ y ∉ k1 ∧ y ∉ k2 ∧ (k1 ++ k2).Nodup := by
  obtain ⟨k1, k2, e⟩ := List.append_of_mem ((h.link p y).2 hu)
  have hn := h.one p
  rw [e, List.nodup_append, List.nodup_cons] at hn
  exact ⟨k1, k2, e, fun hm => hn.2.2 y hm y (by simp) rfl, hn.2.1.1, List.nodup_append.2 ⟨hn.1, hn.2.1.2, fun x hx z hz => hn.2.2 x hx z (List.mem_cons_of_mem _ hz)⟩⟩

/-- What link does. -/
theorem Ok.link_raw {a : Ar} (h : a.Ok) {p x : Nat} {k1 k2 : List Nat} (e : a.kids p = k1 ++ k2) (hu : a.up x = none) : linkF a.raw p (hdI k2) x = (a.put p k1.length x).raw := by
  have hn := h.one p
  rw [e] at hn
  have hx : ∀ q, x ∉ a.kids q := fun q hq => by rw [(h.link q x).1 hq] at hu; cases hu
  have hxk := hx p
  rw [e, List.mem_append] at hxk
  have hka : ∀ y, y ∈ k1 ∨ y ∈ k2 → a.up y = some p := fun y hy => (h.link p y).1 (by rw [e]; exact List.mem_append.2 hy)
  have hah : aheadF a.raw p (hdI k2) = laI k1 := by
    unfold aheadF
    cases k2 with
    | nil => rw [hdI_nil, if_pos rfl]; show laI (a.kids p) = _; rw [e, List.append_nil]
    | cons r k2 =>
      rw [if_neg (fun e => by have := hdI_neg.1 e; cases this)]
      show (a.raw ((r : Int).toNat)).ah = _
      rw [Int.toNat_natCast, raw_ah (hka r (.inr (by simp))), e]
      exact bef_at (fun hm => by rw [List.nodup_append] at hn; exact hn.2.2 r hm r (by simp) rfl)
  have hkp : ∀ y, (a.put p k1.length x).kids y = if y = p then k1 ++ x :: k2 else a.kids y := fun y => by
    show (if y = p then (a.kids p).take k1.length ++ x :: (a.kids p).drop k1.length else a.kids y) = _
    rw [e, List.take_left, List.drop_left]
  have hup : ∀ y, (a.put p k1.length x).up y = if y = x then some p else a.up y := fun y => rfl
  have hx1 : ¬ ((x : Int) = -1) := by omega
  funext y
  unfold linkF
  rw [hah]
  refine Pn.eq ?_ ?_ ?_ ?_ ?_ ?_
  · rw [joinF_lb, joinF_lb]; unfold sUp
    show ((if y = x then _ else _ : Pn)).lb = a.lb y
    split
    · rename_i e; rw [e]; rfl
    · rfl
  · rw [joinF_up, joinF_up]
    show ((if y = x then _ else _ : Pn)).up = upI ((a.put p k1.length x).up y)
    rw [hup]
    split <;> rfl
  · rw [joinF_fi, joinF_fi, if_neg (fun hh => hx1 hh.1)]
    show _ = hdI ((a.put p k1.length x).kids y)
    rw [hkp]
    have e0 : (sUp a.raw x p y).fi = hdI (a.kids y) := by unfold sUp; split <;> rename_i e <;> simp only [raw, e]
    rw [e0]
    by_cases hy : y = p
    · simp only [hy, and_true, if_pos]
      rw [hdI_put, e]
    · rw [if_neg (fun hh => hy hh.2), if_neg hy]
  · rw [joinF_la, joinF_la, if_neg (c := (x : Int) = -1 ∧ y = p) (fun hh => hx1 hh.1)]
    show _ = laI ((a.put p k1.length x).kids y)
    rw [hkp]
    have e0 : (sUp a.raw x p y).la = laI (a.kids y) := by unfold sUp; split <;> rename_i e <;> simp only [raw, e]
    rw [e0]
    by_cases hy : y = p
    · simp only [hy, and_true, if_pos]
      rw [laI_put, e]
    · rw [if_neg (fun hh => hy hh.2), if_neg hy]
  · rw [joinF_ah, joinF_ah]
    have e0 : (sUp a.raw x p y).ah = (a.raw y).ah := by unfold sUp; split <;> rename_i e <;> simp only [e]
    rw [e0]
    by_cases hy : y = x
    · have h2 : ¬ (hdI k2 ≠ -1 ∧ y = (hdI k2).toNat) := fun hh => by
        cases k2 with
        | nil => exact hh.1 rfl
        | cons r k2 => exact hxk (.inr (by have := hh.2; rw [show hdI (r :: k2) = (r : Int) from rfl, Int.toNat_natCast, hy] at this; simp [this]))
      rw [if_neg h2, if_pos ⟨hx1, by rw [Int.toNat_natCast]; exact hy⟩]
      rw [raw_ah (p := p) (by rw [hup, if_pos hy]), hkp, if_pos rfl, hy, bef_at (fun hm => hxk (.inl hm))]
    · rw [if_neg (c := (x : Int) ≠ -1 ∧ y = (x : Int).toNat) (fun hh => hy (by have := hh.2; rwa [Int.toNat_natCast] at this))]
      cases hq : a.up y with
      | none =>
        rw [raw_ah_none hq, raw_ah_none (by rw [hup, if_neg hy]; exact hq), if_neg]
        rintro ⟨h1, h2⟩
        cases k2 with
        | nil => exact h1 rfl
        | cons r k2 =>
          rw [show hdI (r :: k2) = (r : Int) from rfl, Int.toNat_natCast] at h2
          have := hka r (.inr (by simp))
          rw [← h2, hq] at this; cases this
      | some q =>
        rw [raw_ah hq, raw_ah (p := q) (by rw [hup, if_neg hy]; exact hq), hkp]
        by_cases hqp : q = p
        · subst hqp
          rw [if_pos rfl, bef_put hy hn, e]
          cases k2 with
          | nil => rw [if_neg (fun hh => hh.1 rfl), hdI_nil, if_neg (show ¬ (-1 : Int) = y by omega)]
          | cons r k2 =>
            rw [show hdI (r :: k2) = (r : Int) from rfl, Int.toNat_natCast]
            by_cases hr : y = r
            · rw [if_pos ⟨by omega, hr⟩, if_pos (by omega)]
            · rw [if_neg (fun hh => hr hh.2), if_neg (by omega)]
        · rw [if_neg hqp, if_neg]
          rintro ⟨h1, h2⟩
          cases k2 with
          | nil => exact h1 rfl
          | cons r k2 =>
            rw [show hdI (r :: k2) = (r : Int) from rfl, Int.toNat_natCast] at h2
            have := hka r (.inr (by simp))
            rw [← h2, hq] at this; exact hqp (Option.some.inj this)
  · rw [joinF_be, joinF_be]
    have e0 : (sUp a.raw x p y).be = (a.raw y).be := by unfold sUp; split <;> rename_i e <;> simp only [e]
    rw [e0]
    by_cases hy : y = x
    · rw [if_pos ⟨hx1, by rw [Int.toNat_natCast]; exact hy⟩]
      rw [raw_be (p := p) (by rw [hup, if_pos hy]), hkp, if_pos rfl, hy, aft_at (fun hm => hxk (.inl hm))]
    · rw [if_neg (c := (x : Int) ≠ -1 ∧ y = (x : Int).toNat) (fun hh => hy (by have := hh.2; rwa [Int.toNat_natCast] at this))]
      cases hq : a.up y with
      | none =>
        rw [raw_be_none hq, raw_be_none (by rw [hup, if_neg hy]; exact hq), if_neg]
        rintro ⟨h1, h2⟩
        cases k1 with
        | nil => exact h1 rfl
        | cons r k1 =>
          obtain ⟨z, e1, e2⟩ := laI_cons r k1
          rw [e1, Int.toNat_natCast] at h2
          have := hka z (.inl e2)
          rw [← h2, hq] at this; cases this
      | some q =>
        rw [raw_be hq, raw_be (p := q) (by rw [hup, if_neg hy]; exact hq), hkp]
        by_cases hqp : q = p
        · subst hqp
          rw [if_pos rfl, aft_put hy hn, e]
          cases k1 with
          | nil => rw [if_neg (fun hh => hh.1 rfl), laI_nil, if_neg (show ¬ (-1 : Int) = y by omega)]
          | cons r k1 =>
            obtain ⟨z, e1, e2⟩ := laI_cons r k1
            rw [e1, Int.toNat_natCast]
            by_cases hr : y = z
            · rw [if_pos ⟨by omega, hr⟩, if_pos (by omega)]
            · rw [if_neg (fun hh => hr hh.2), if_neg (by omega)]
        · rw [if_neg hqp, if_neg]
          rintro ⟨h1, h2⟩
          cases k1 with
          | nil => exact h1 rfl
          | cons r k1 =>
            obtain ⟨z, e1, e2⟩ := laI_cons r k1
            rw [e1, Int.toNat_natCast] at h2
            have := hka z (.inl e2)
            rw [← h2, hq] at this; exact hqp (Option.some.inj this)

/-- What unlink does: it is what link did, taken back. -/
theorem Ok.unlink_raw {a : Ar} (h : a.Ok) {p x : Nat} (hu : a.up x = some p) : unlinkF a.raw p x = (a.cut x).raw := by
  obtain ⟨k1, k2, e, h1, h2, hn⟩ := h.split hu
  have hka : ∀ y, y ∈ k1 ∨ y ∈ k2 → a.up y = some p := fun y hy => (h.link p y).1 (by rw [e]; rcases hy with hy | hy <;> simp [hy])
  have hah : (a.raw x).ah = laI k1 := by rw [raw_ah hu, e, bef_at h1]
  have hbe : (a.raw x).be = hdI k2 := by rw [raw_be hu, e, aft_at h1]
  have hkp : ∀ y, (a.cut x).kids y = if y = p then k1 ++ k2 else a.kids y := fun y => by
    show (if a.up x = some y then (a.kids y).erase x else a.kids y) = _
    rw [hu]
    by_cases hy : y = p
    · subst hy
      rw [if_pos rfl, if_pos rfl, e, List.erase_append_right _ h1, List.erase_cons_head]
    · rw [if_neg (fun hh => hy (Option.some.inj hh).symm), if_neg hy]
  have hup : ∀ y, (a.cut x).up y = if y = x then none else a.up y := fun y => rfl
  have hxx : (a.cut x).up x = none := by rw [hup, if_pos rfl]
  funext y
  have hU : ∀ (M : Nat → Pn), sBe (sAh (sUp M x (-1)) x (-1)) x (-1) y = if y = x then ⟨(M x).lb, -1, (M x).fi, (M x).la, -1, -1⟩ else M y := fun M => by
    unfold sBe sAh sUp
    by_cases hy : y = x
    · simp only [hy, if_pos]
    · simp only [if_neg hy]
  unfold unlinkF
  rw [hah, hbe, hU]
  refine Pn.eq ?_ ?_ ?_ ?_ ?_ ?_
  · show _ = a.lb y
    split
    · rename_i hy; rw [hy]; exact joinF_lb ..
    · exact joinF_lb ..
  · show _ = upI ((a.cut x).up y)
    rw [hup]
    split
    · rfl
    · exact joinF_up ..
  · show _ = hdI ((a.cut x).kids y)
    have e1 : (if y = x then (⟨(joinF a.raw p (laI k1) (hdI k2) x).lb, -1, (joinF a.raw p (laI k1) (hdI k2) x).fi, (joinF a.raw p (laI k1) (hdI k2) x).la, -1, -1⟩ : Pn) else joinF a.raw p (laI k1) (hdI k2) y).fi = (joinF a.raw p (laI k1) (hdI k2) y).fi := by
      split
      · rename_i hy; rw [hy]
      · rfl
    rw [e1, joinF_fi, hkp]
    by_cases hy : y = p
    · simp only [hy, and_true, if_pos]
      show _ = _
      have : (a.raw p).fi = hdI (k1 ++ x :: k2) := by show hdI (a.kids p) = _; rw [e]
      rw [this, hdI_put]
      cases k1 with
      | nil => rfl
      | cons z k1 =>
        have hz : ¬ laI (z :: k1) = -1 := fun e => by have := laI_neg.1 e; cases this
        rw [if_neg hz, if_neg hz]
    · rw [if_neg (fun hh => hy hh.2), if_neg hy]; rfl
  · show _ = laI ((a.cut x).kids y)
    have e1 : (if y = x then (⟨(joinF a.raw p (laI k1) (hdI k2) x).lb, -1, (joinF a.raw p (laI k1) (hdI k2) x).fi, (joinF a.raw p (laI k1) (hdI k2) x).la, -1, -1⟩ : Pn) else joinF a.raw p (laI k1) (hdI k2) y).la = (joinF a.raw p (laI k1) (hdI k2) y).la := by
      split
      · rename_i hy; rw [hy]
      · rfl
    rw [e1, joinF_la, hkp]
    by_cases hy : y = p
    · simp only [hy, and_true, if_pos]
      have : (a.raw p).la = laI (k1 ++ x :: k2) := by show laI (a.kids p) = _; rw [e]
      rw [this, laI_put]
      cases k2 with
      | nil => rw [hdI_nil, if_pos rfl, List.append_nil]
      | cons z k2 =>
        have hz : ¬ hdI (z :: k2) = -1 := fun e => by have := hdI_neg.1 e; cases this
        rw [if_neg hz, if_neg hz]
    · rw [if_neg (fun hh => hy hh.2), if_neg hy]; rfl
  · by_cases hy : y = x
    · rw [if_pos hy, hy, raw_ah_none hxx]
    · rw [if_neg hy, joinF_ah]
      cases hq : a.up y with
      | none =>
        rw [raw_ah_none hq, raw_ah_none (by rw [hup, if_neg hy]; exact hq), if_neg]
        rintro ⟨h1, h2⟩
        cases k2 with
        | nil => exact h1 rfl
        | cons r k2 =>
          rw [show hdI (r :: k2) = (r : Int) from rfl, Int.toNat_natCast] at h2
          have := hka r (.inr (by simp))
          rw [← h2, hq] at this; cases this
      | some q =>
        rw [raw_ah hq, raw_ah (p := q) (by rw [hup, if_neg hy]; exact hq), hkp]
        by_cases hqp : q = p
        · subst hqp
          rw [if_pos rfl, e, bef_put hy hn]
          cases k2 with
          | nil => rw [if_neg (fun hh => hh.1 rfl), hdI_nil, if_neg (show ¬ (-1 : Int) = y by omega)]
          | cons r k2 =>
            rw [show hdI (r :: k2) = (r : Int) from rfl, Int.toNat_natCast]
            by_cases hr : y = r
            · have hr1 : r ∉ k1 := fun hm => (List.nodup_append.1 hn).2.2 r hm r (by simp) rfl
              rw [if_pos ⟨by omega, hr⟩, hr, bef_at hr1]
            · rw [if_neg (fun hh => hr hh.2), if_neg (by omega)]
        · rw [if_neg hqp, if_neg]
          rintro ⟨h1, h2⟩
          cases k2 with
          | nil => exact h1 rfl
          | cons r k2 =>
            rw [show hdI (r :: k2) = (r : Int) from rfl, Int.toNat_natCast] at h2
            have := hka r (.inr (by simp))
            rw [← h2, hq] at this; exact hqp (Option.some.inj this)
  · by_cases hy : y = x
    · rw [if_pos hy, hy, raw_be_none hxx]
    · rw [if_neg hy, joinF_be]
      cases hq : a.up y with
      | none =>
        rw [raw_be_none hq, raw_be_none (by rw [hup, if_neg hy]; exact hq), if_neg]
        rintro ⟨h1, h2⟩
        cases k1 with
        | nil => exact h1 rfl
        | cons r k1 =>
          obtain ⟨z, e1, e2⟩ := laI_cons r k1
          rw [e1, Int.toNat_natCast] at h2
          have := hka z (.inl e2)
          rw [← h2, hq] at this; cases this
      | some q =>
        rw [raw_be hq, raw_be (p := q) (by rw [hup, if_neg hy]; exact hq), hkp]
        by_cases hqp : q = p
        · subst hqp
          rw [if_pos rfl, e, aft_put hy hn]
          cases k1 with
          | nil => rw [if_neg (fun hh => hh.1 rfl), laI_nil, if_neg (show ¬ (-1 : Int) = y by omega)]
          | cons r k1 =>
            obtain ⟨z, e1, e2⟩ := laI_cons r k1
            rw [e1, Int.toNat_natCast]
            by_cases hr : y = z
            · rw [if_pos ⟨by omega, hr⟩, hr]
              exact (aft_last e1 hn).symm
            · rw [if_neg (fun hh => hr hh.2), if_neg (by omega)]
        · rw [if_neg hqp, if_neg]
          rintro ⟨h1, h2⟩
          cases k1 with
          | nil => exact h1 rfl
          | cons r k1 =>
            obtain ⟨z, e1, e2⟩ := laI_cons r k1
            rw [e1, Int.toNat_natCast] at h2
            have := hka z (.inl e2)
            rw [← h2, hq] at this; exact hqp (Option.some.inj this)

end Ar
end Go.Proofs.YtgjkfpmhgidpaaaGreat

/-
  Arenas by themselves: how isWithin goes up and counts; how Of lays a tree; sizes: no program.
-/
namespace Go.Proofs.YtgjkfpmhgidpaaaGreat
set_option linter.unusedVariables false
set_option linter.unusedSimpArgs false

/-- Numbers, each once, all of which stand in another row, are no more. -/
theorem pig_sub : ∀ (l m : List Nat), l.Nodup → (∀ x ∈ l, x ∈ m) → l.length ≤ m.length
  | [], _, _, _ => Nat.zero_le _
  | x :: l, m, hn, h => by
    have hn' := List.nodup_cons.1 hn
    have h1 := pig_sub l (m.erase x) hn'.2 (fun y hy => by
      have hyx : y ≠ x := fun e => hn'.1 (e ▸ hy)
      exact (List.mem_erase_of_ne hyx).2 (h y (List.mem_cons_of_mem _ hy)))
    have hx := h x (List.mem_cons_self ..)
    rw [List.length_erase_of_mem hx] at h1
    have := List.length_pos_of_mem hx
    simp only [List.length_cons]
    omega

/-- A node, if it is one. -/
def opt (z : Int) : List Nat := if z = -1 then [] else [z.toNat]

theorem opt_hd {k : List Nat} {s : Nat} {r : List Nat} (e : k = s :: r) : opt (hdI k) = [s] := by
  subst e
  unfold opt
  rw [if_neg (fun e => by have := hdI_neg.1 e; cases this)]
  rfl

theorem opt_len (z : Int) : (opt z).length ≤ 1 := by unfold opt; split <;> simp

namespace Ar

/-- The kid behind one. -/
theorem Ok.chain {a : Ar} (h : a.Ok) {p : Nat} {k1 k2 : List Nat} {y : Nat} (e : a.kids p = k1 ++ y :: k2) : (a.raw y).be = hdI k2 ∧ (a.raw y).ah = laI k1 := by
  have hu : a.up y = some p := (h.link p y).1 (by rw [e]; simp)
  have hn := h.one p
  rw [e, List.nodup_append] at hn
  have h1 : y ∉ k1 := fun hm => hn.2.2 y hm y (by simp) rfl
  exact ⟨by rw [raw_be hu, e, aft_at h1], by rw [raw_ah hu, e, bef_at h1]⟩

/-- What still is to be counted: one of the pile, those behind it, and all below them. -/
def Cov (a : Ar) (s y : Nat) : Prop := ∃ p k1 k2, a.kids p = k1 ++ s :: k2 ∧ ∃ c, c ∈ s :: k2 ∧ a.Wn y c

theorem Wn.kid {a : Ar} (h : a.Ok) {y t : Nat} (w : a.Wn y t) (hne : y ≠ t) : ∃ c, c ∈ a.kids t ∧ a.Wn y c := by
  obtain ⟨k, e⟩ := w
  induction k generalizing y with
  | zero => exact absurd (by simpa [anc] using e) hne
  | succ k ih =>
    cases hu : a.up y with
    | none => simp [anc, hu] at e
    | some q =>
      have e2 : a.anc k q = Option.some t := by simpa [anc, hu] using e
      by_cases hq : q = t
      · subst hq; exact ⟨y, (h.link q y).2 hu, Wn.refl a y⟩
      · obtain ⟨c, h1, h2⟩ := ih hq e2
        exact ⟨c, h1, Wn.step hu h2⟩

theorem Ok.cov_first {a : Ar} (h : a.Ok) {y t : Nat} (w : a.Wn y t) (hne : y ≠ t) : ∃ s, s ∈ opt (a.raw t).fi ∧ a.Cov s y := by
  obtain ⟨c, h1, h2⟩ := Wn.kid h w hne
  cases hk : a.kids t with
  | nil => rw [hk] at h1; cases h1
  | cons s r =>
    refine ⟨s, by show s ∈ opt (hdI (a.kids t)); rw [opt_hd hk]; simp, t, [], r, by rw [hk]; rfl, c, by rw [← hk]; exact h1, h2⟩

theorem Ok.cov_step {a : Ar} (h : a.Ok) {s y : Nat} (c : a.Cov s y) : y = s ∨ ∃ x, (x ∈ opt (a.raw s).be ∨ x ∈ opt (a.raw s).fi) ∧ a.Cov x y := by
  obtain ⟨p, k1, k2, e, c, hc, hw⟩ := c
  rcases List.mem_cons.1 hc with rfl | hc
  · by_cases hy : y = c
    · exact .inl hy
    · obtain ⟨x, h1, h2⟩ := h.cov_first hw hy
      exact .inr ⟨x, .inr h1, h2⟩
  · cases hk : k2 with
    | nil => rw [hk] at hc; cases hc
    | cons x r =>
      refine .inr ⟨x, .inl ?_, p, k1 ++ [s], r, by rw [e, hk]; simp, c, by rw [← hk]; exact hc, hw⟩
      rw [(h.chain e).1, opt_hd hk]; simp

/-- isWithin under way: at cur; L has been left below, P counted, S is the pile. -/
structure Wi (a : Ar) (n0 top cur : Nat) (L P S : List Nat) : Prop where
  nod : L.Nodup
  len : P.length = L.length
  anc' : a.anc L.length n0 = some cur
  eqv : a.Wn n0 top ↔ a.Wn cur top
  lft : ∀ z, z ∈ L → z ≠ top ∧ (a.Wn n0 top → a.Wn z top) ∧ ¬ a.Wn cur z
  cov : ∀ y, a.Wn y top → y ≠ top → y ∈ P ∨ ∃ s, s ∈ S ∧ a.Cov s y
  lt : cur < a.n
  all : ∀ s, s ∈ S → s < a.n ∧ ∃ p, a.up s = some p

theorem anc_succ (a : Ar) : ∀ (k : Nat) {x y z : Nat}, a.anc k x = some y → a.up y = some z → a.anc (k + 1) x = some z
  | 0, x, y, z, h, hz => by
    obtain rfl : x = y := by simpa [anc] using h
    simp [anc, hz]
  | k + 1, x, y, z, h, hz => by
    cases hu : a.up x with
    | none => simp [anc, hu] at h
    | some q =>
      have h2 : a.anc k q = some y := by simpa [anc, hu] using h
      have := anc_succ a k h2 hz
      show (a.up x).bind (a.anc (k + 1)) = some z
      rw [hu]; exact this

theorem Ok.opt_fi {a : Ar} (h : a.Ok) (t : Nat) : ∀ s, s ∈ opt (a.raw t).fi → s < a.n ∧ ∃ p, a.up s = some p := by
  intro s hs
  cases hk : a.kids t with
  | nil => replace hs : s ∈ opt (hdI (a.kids t)) := hs
           rw [hk] at hs; simp [opt, hdI] at hs
  | cons x r =>
    replace hs : s ∈ opt (hdI (a.kids t)) := hs
    rw [opt_hd hk, List.mem_singleton] at hs
    have : a.up s = some t := (h.link t s).1 (by rw [hk, hs]; simp)
    exact ⟨(h.lt this).1, t, this⟩

theorem Ok.opt_be {a : Ar} (h : a.Ok) {t p : Nat} (hu : a.up t = some p) : ∀ s, s ∈ opt (a.raw t).be → s < a.n ∧ ∃ p, a.up s = some p := by
  intro s hs
  obtain ⟨k1, k2, e, _⟩ := h.split hu
  rw [(h.chain e).1] at hs
  cases hk : k2 with
  | nil => rw [hk] at hs; simp [opt, hdI] at hs
  | cons x r =>
    rw [opt_hd hk, List.mem_singleton] at hs
    have : a.up s = some p := (h.link p s).1 (by rw [e, hk, hs]; simp)
    exact ⟨(h.lt this).1, p, this⟩

theorem Ok.wi_start {a : Ar} (h : a.Ok) {n0 top : Nat} (hn : n0 < a.n) : a.Wi n0 top n0 [] [] (opt (a.raw top).fi) :=
  ⟨List.nodup_nil, rfl, rfl, Iff.rfl, fun z hz => (by cases hz), fun y hw hy => .inr (h.cov_first hw hy), hn, h.opt_fi top⟩

theorem Wi.step {a : Ar} (h : a.Ok) {n0 top cur q c : Nat} {L P S : List Nat} (i : a.Wi n0 top cur L P (S ++ [c])) (hne : cur ≠ top) (hu : a.up cur = some q) :
    a.Wi n0 top q (cur :: L) (c :: P) (S ++ opt (a.raw c).be ++ opt (a.raw c).fi) := by
  have hc := i.all c (by simp)
  obtain ⟨pc, hpc⟩ := hc.2
  refine ⟨List.nodup_cons.2 ⟨fun hm => (i.lft cur hm).2.2 (Wn.refl a cur), i.nod⟩, by simp [i.len], anc_succ a _ i.anc' hu, i.eqv.trans ((Wn.some hu).trans ⟨fun h => h.resolve_left hne, .inr⟩), fun z hz => ?_, fun y hw hy => ?_, (h.lt hu).2, fun s hs => ?_⟩
  · rcases List.mem_cons.1 hz with rfl | hz
    · exact ⟨hne, i.eqv.1, h.not_up hu⟩
    · obtain ⟨h1, h2, h3⟩ := i.lft z hz
      exact ⟨h1, h2, fun hw => h3 (Wn.step hu hw)⟩
  · rcases i.cov y hw hy with h1 | ⟨s, h1, h2⟩
    · exact .inl (List.mem_cons_of_mem _ h1)
    · rcases List.mem_append.1 h1 with h1 | h1
      · exact .inr ⟨s, by simp [h1], h2⟩
      · obtain rfl := List.mem_singleton.1 h1
        rcases h.cov_step h2 with rfl | ⟨x, hx, h3⟩
        · exact .inl (by simp)
        · exact .inr ⟨x, by rcases hx with hx | hx <;> simp [hx], h3⟩
  · rw [List.mem_append, List.mem_append] at hs
    rcases hs with (hs | hs) | hs
    · exact i.all s (by simp [hs])
    · exact h.opt_be hpc s hs
    · exact h.opt_fi c s hs

theorem Wi.top_yes {a : Ar} {n0 top : Nat} {L P S : List Nat} (i : a.Wi n0 top top L P S) : a.Wn n0 top := i.eqv.2 (Wn.refl a top)
theorem Wi.none_no {a : Ar} {n0 top cur : Nat} {L P S : List Nat} (i : a.Wi n0 top cur L P S) (hne : cur ≠ top) (hu : a.up cur = Option.none) : ¬ a.Wn n0 top :=
  fun hw => hne ((Wn.none hu).1 (i.eqv.1 hw))
theorem Wi.empty_no {a : Ar} {n0 top cur : Nat} {L P : List Nat} (i : a.Wi n0 top cur L P []) (hne : cur ≠ top) : ¬ a.Wn n0 top := fun hw => by
  have hin : ∀ y, a.Wn y top → y ≠ top → y ∈ P := fun y h1 h2 => by
    rcases i.cov y h1 h2 with h | ⟨s, h, _⟩
    · exact h
    · cases h
  have := pig_sub (cur :: L) P (List.nodup_cons.2 ⟨fun hm => (i.lft cur hm).2.2 (Wn.refl a cur), i.nod⟩) (fun y hy => by
    rcases List.mem_cons.1 hy with rfl | hy
    · exact hin y (i.eqv.1 hw) hne
    · obtain ⟨h1, h2, _⟩ := i.lft y hy
      exact hin y (h2 hw) h1)
  have h2 := i.len
  simp only [List.length_cons] at this
  omega

theorem wn_eq {a : Ar} (h : a.Ok) {x t : Nat} (hx : x < a.n) (b : Bool) (hb : a.Wn x t ↔ b = true) : a.wn x t = b := by
  cases b with
  | true => exact (wn_iff h hx).2 (hb.2 rfl)
  | false =>
    cases hw : a.wn x t with
    | false => rfl
    | true => exact absurd (hb.1 ((wn_iff h hx).1 hw)) (by simp)

/-- A node that is not there yet is above none. -/
theorem Ok.new_wn {a : Ar} (h : a.Ok) (l : Lb) {p : Nat} (hp : p < a.n) : ¬ (a.new l).Wn p a.n := by
  rintro ⟨k, e⟩
  have : ∀ k y z, y < a.n → (a.new l).anc k y = some z → z < a.n := fun k => by
    induction k with
    | zero => intro y z hy e; obtain rfl : y = z := by simpa [anc] using e
              exact hy
    | succ k ih =>
      intro y z hy e
      cases hu : a.up y with
      | none => have : (a.new l).up y = none := hu
                simp [anc, this] at e
      | some q =>
        have h2 : (a.new l).up y = some q := hu
        exact ih q z (h.lt hu).2 (by simpa [anc, h2] using e)
  exact absurd (this k p a.n hp e) (Nat.lt_irrefl _)

theorem Ok.raw_new {a : Ar} (h : a.Ok) (l : Lb) : (a.new l).raw = fun y => if y = a.n then ⟨l, -1, -1, -1, -1, -1⟩ else a.raw y := by
  funext y
  by_cases hy : y = a.n
  · have h1 := h.out a.n (Nat.le_refl _)
    have h2 : (a.new l).kids y = [] := by rw [hy]; exact h1.1
    have h3 : (a.new l).up y = none := by rw [hy]; exact h1.2
    rw [if_pos hy]
    refine Pn.eq ?_ ?_ ?_ ?_ ?_ ?_
    · show (if y = a.n then l else a.lb y) = l; rw [if_pos hy]
    · show upI ((a.new l).up y) = -1; rw [h3]; rfl
    · show hdI ((a.new l).kids y) = -1; rw [h2]; rfl
    · show laI ((a.new l).kids y) = -1; rw [h2]; rfl
    · exact raw_ah_none h3
    · exact raw_be_none h3
  · rw [if_neg hy]
    refine Pn.eq ?_ rfl rfl rfl rfl rfl
    show (if y = a.n then l else a.lb y) = a.lb y; rw [if_neg hy]

theorem raw_tell (a : Ar) (x : Nat) (l : Lb) : (a.tell x l).raw = sLb a.raw x l := by
  funext y
  unfold sLb
  by_cases hy : y = x
  · subst hy
    rw [if_pos rfl]
    refine Pn.eq ?_ rfl rfl rfl rfl rfl
    show (if y = y then l else a.lb y) = l; rw [if_pos rfl]
  · rw [if_neg hy]
    refine Pn.eq ?_ rfl rfl rfl rfl rfl
    show (if y = x then l else a.lb y) = a.lb y; rw [if_neg hy]

/-- Nothing is cut where there is no parent. -/
theorem cut_none {a : Ar} {x : Nat} (hu : a.up x = none) : a.cut x = a := by
  cases a with
  | mk n lb kids up =>
    simp only [cut, Ar.mk.injEq, true_and]
    have hu' : up x = none := hu
    refine ⟨funext fun y => ?_, funext fun y => ?_⟩
    · rw [hu', if_neg (fun e => by cases e)]
    · by_cases hy : y = x
      · rw [if_pos hy, hy]; exact hu'.symm
      · rw [if_neg hy]

/-- A row of trees laid under a node, each node behind all that are there. -/
def lay : Fo → Nat → Ar → Ar
  | ⟨false, _, _, _⟩, _, a => a
  | ⟨true, l, k, r⟩, p, a => lay (r rfl) p (lay (k rfl) a.n ((a.new (l rfl)).put p (a.kids p).length a.n))
theorem lay_nil (p : Nat) (a : Ar) : lay .nil p a = a := rfl
theorem lay_cons (l : Lb) (k r : Fo) (p : Nat) (a : Ar) : lay (.cons l k r) p a = lay r p (lay k a.n ((a.new l).put p (a.kids p).length a.n)) := rfl

/-- What is still to be laid. -/
def items (q : Nat) : Fo → List (Nat × Lb × Fo)
  | ⟨false, _, _, _⟩ => []
  | ⟨true, l, k, r⟩ => (q, l rfl, k rfl) :: items q (r rfl)
theorem items_nil (q : Nat) : items q .nil = [] := rfl
theorem items_cons (q : Nat) (l : Lb) (k r : Fo) : items q (.cons l k r) = (q, l, k) :: items q r := rfl

def layAll : List (Nat × Lb × Fo) → Ar → Ar
  | [], a => a
  | x :: rest, a => layAll rest (lay x.2.2 a.n ((a.new x.2.1).put x.1 (a.kids x.1).length a.n))

theorem lay_items (q : Nat) (rest : List (Nat × Lb × Fo)) (f : Fo) : ∀ a, layAll (items q f ++ rest) a = layAll rest (lay f q a) := by
  refine Fo.ind (P := fun f => ∀ a, layAll (items q f ++ rest) a = layAll rest (lay f q a)) (fun a => rfl) (fun l k r _ hr a => ?_) f
  rw [items_cons, lay_cons, ← hr]
  rfl

/-- These nodes, with all below them, are that row of trees; all lie from lo to hi. -/
def Is (a : Ar) (lo hi : Nat) : Fo → List Nat → Prop
  | ⟨false, _, _, _⟩, ks => ks = []
  | ⟨true, l, k, r⟩, ks => ∃ x xs, ks = x :: xs ∧ (lo ≤ x ∧ x < hi) ∧ a.lb x = l rfl ∧ Is a lo hi (k rfl) (a.kids x) ∧ Is a lo hi (r rfl) xs
theorem is_nil {a : Ar} {lo hi : Nat} {ks : List Nat} : a.Is lo hi .nil ks ↔ ks = [] := Iff.rfl
theorem is_cons {a : Ar} {lo hi : Nat} {l : Lb} {k r : Fo} {ks : List Nat} : a.Is lo hi (.cons l k r) ks ↔ ∃ x xs, ks = x :: xs ∧ (lo ≤ x ∧ x < hi) ∧ a.lb x = l ∧ a.Is lo hi k (a.kids x) ∧ a.Is lo hi r xs := Iff.rfl

theorem Is.keep {a b : Ar} {lo hi lo' hi' : Nat} (e : ∀ y, lo ≤ y → y < hi → b.lb y = a.lb y ∧ b.kids y = a.kids y) (h1 : lo' ≤ lo) (h2 : hi ≤ hi') {f : Fo} : ∀ {ks}, a.Is lo hi f ks → b.Is lo' hi' f ks := by
  refine Fo.ind (P := fun f => ∀ {ks}, a.Is lo hi f ks → b.Is lo' hi' f ks) (fun {ks} h => h) (fun l k r hk hr {ks} h => ?_) f
  obtain ⟨x, xs, e1, e2, e3, e4, e5⟩ := is_cons.1 h
  obtain ⟨g1, g2⟩ := e x e2.1 e2.2
  exact is_cons.2 ⟨x, xs, e1, ⟨by omega, by omega⟩, by rw [g1]; exact e3, by rw [g2]; exact hk e4, hr e5⟩

theorem Is.fold {a : Ar} (h : a.Ok) {lo hi : Nat} {f : Fo} : ∀ {ks}, a.Is lo hi f ks → ks.foldr (fun c r => Fo.cons (a.lb c) (a.below c) r) .nil = f := by
  refine Fo.ind (P := fun f => ∀ {ks}, a.Is lo hi f ks → ks.foldr (fun c r => Fo.cons (a.lb c) (a.below c) r) .nil = f) (fun {ks} h => by rw [is_nil.1 h]; rfl) (fun l k r hk hr {ks} hh => ?_) f
  obtain ⟨x, xs, rfl, e2, e3, e4, e5⟩ := is_cons.1 hh
  rw [List.foldr_cons, hr e5, e3, h.below_kids, hk e4]

theorem lay_all {f : Fo} : ∀ (p : Nat) (a : Ar), a.Ok → p < a.n → (lay f p a).Ok ∧ (lay f p a).n = a.n + f.cnt ∧ (∀ y, y < a.n → (lay f p a).lb y = a.lb y) ∧ (∀ y, y < a.n → y ≠ p → (lay f p a).kids y = a.kids y) ∧
    ∃ ks, (lay f p a).kids p = a.kids p ++ ks ∧ (lay f p a).Is a.n (lay f p a).n f ks := by
  refine Fo.ind (P := fun f => ∀ (p : Nat) (a : Ar), a.Ok → p < a.n → (lay f p a).Ok ∧ (lay f p a).n = a.n + f.cnt ∧ (∀ y, y < a.n → (lay f p a).lb y = a.lb y) ∧ (∀ y, y < a.n → y ≠ p → (lay f p a).kids y = a.kids y) ∧
    ∃ ks, (lay f p a).kids p = a.kids p ++ ks ∧ (lay f p a).Is a.n (lay f p a).n f ks) (fun p a h hp => ?_) (fun l k r hk hr p a h hp => ?_) f
  · exact ⟨h, rfl, fun _ _ => rfl, fun _ _ _ => rfl, [], by rw [lay_nil, List.append_nil], rfl⟩
  · have hpn : p ≠ a.n := by omega
    have h0 := h.pos
    have o1 : ((a.new l).put p (a.kids p).length a.n).Ok := (h.new l).put (show p < a.n + 1 by omega) (show a.n < a.n + 1 by omega) (by omega) (h.out a.n (Nat.le_refl _)).2 (h.new_wn l hp)
    have n1 : ((a.new l).put p (a.kids p).length a.n).n = a.n + 1 := rfl
    have l1 : ∀ y, ((a.new l).put p (a.kids p).length a.n).lb y = if y = a.n then l else a.lb y := fun _ => rfl
    have k1 : ∀ y, ((a.new l).put p (a.kids p).length a.n).kids y = if y = p then a.kids p ++ [a.n] else a.kids y := fun y => by
      show (if y = p then (a.kids p).take (a.kids p).length ++ a.n :: (a.kids p).drop (a.kids p).length else a.kids y) = _
      rw [List.take_length, List.drop_length]
    obtain ⟨a1, hA⟩ : ∃ x, (a.new l).put p (a.kids p).length a.n = x := ⟨_, rfl⟩
    simp only [hA] at o1 n1 l1 k1
    obtain ⟨o2, n2, l2, k2, ks2, e2, i2⟩ := hk a.n a1 o1 (by omega)
    rw [n1] at n2 l2 k2 i2
    obtain ⟨o3, n3, l3, k3, ks3, e3, i3⟩ := hr p (lay k a.n a1) o2 (by omega)
    have hc : (Fo.cons l k r).cnt = 1 + k.cnt + r.cnt := rfl
    have e1 : (lay (Fo.cons l k r) p a) = lay r p (lay k a.n a1) := by
      rw [lay_cons, hA]
    rw [e1]
    refine ⟨o3, by omega, fun y hy => ?_, fun y hy hyp => ?_, a.n :: ks3, ?_, ?_⟩
    · rw [l3 y (by omega), l2 y (by omega), l1, if_neg (by omega)]
    · rw [k3 y (by omega) hyp, k2 y (by omega) (by omega), k1, if_neg hyp]
    · rw [e3, k2 p (by omega) hpn, k1, if_pos rfl, List.append_assoc]; rfl
    · refine is_cons.2 ⟨a.n, ks3, rfl, ⟨Nat.le_refl _, by omega⟩, ?_, ?_, i3.keep (fun _ _ _ => ⟨rfl, rfl⟩) (by omega) (Nat.le_refl _)⟩
      · rw [l3 _ (by omega), l2 _ (by omega), l1, if_pos rfl]
      · rw [k3 _ (by omega) (Ne.symm hpn), e2, k1, if_neg (Ne.symm hpn), (h.out a.n (Nat.le_refl _)).1, List.nil_append]
        exact i2.keep (fun y h1 h2 => ⟨l3 y h2, k3 y h2 (by omega)⟩) (by omega) (by omega)

/-- A tree laid in an empty arena. -/
theorem lay_first (f : Fo) : (lay f 0 first).Ok ∧ (lay f 0 first).n = 1 + f.cnt ∧ (lay f 0 first).lb 0 = (1, 0, ⟨#[]⟩, [], ⟨#[]⟩) ∧ (lay f 0 first).below 0 = f := by
  obtain ⟨h1, h2, h3, h4, ks, h5, h6⟩ := lay_all (f := f) 0 first first_ok Nat.one_pos
  refine ⟨h1, h2, h3 0 Nat.one_pos, ?_⟩
  rw [h1.below_kids, h5]
  exact h6.fold h1

/-- Few attributes, none too long, no two of one name. -/
structure Tiny (m : Nat) (l : List Att) : Prop where
  len : l.length ≤ m
  each : ∀ a, a ∈ l → a.1.size ≤ 20 ∧ a.2.size ≤ 30
  dist : Dist l

theorem Tiny.nil (m : Nat) : Tiny m [] := ⟨Nat.zero_le _, fun _ h => (by cases h), List.Pairwise.nil⟩
theorem Tiny.mono {m n : Nat} {l : List Att} (h : Tiny m l) (hn : m ≤ n) : Tiny n l := ⟨by have := h.len; omega, h.each, h.dist⟩
theorem Tiny.fits {m : Nat} {l : List Att} (h : Tiny m l) : fits l := fun a ha => by have := h.each a ha; omega

theorem each_more {P : Att → Prop} (m : List Att) : ∀ {l : List Att}, (∀ a, a ∈ l → P a) → (∀ a, a ∈ m → P a) → ∀ a, a ∈ more l m → P a := by
  induction m with
  | nil => exact fun h _ => h
  | cons b m ih =>
    intro l h1 h2
    refine ih (l := add l b) (fun a ha => ?_) (fun a ha => h2 a (List.mem_cons_of_mem _ ha))
    unfold add at ha
    split at ha
    · exact h1 a ha
    · rcases List.mem_append.1 ha with ha | ha
      · exact h1 a ha
      · exact h2 a (by rw [List.mem_singleton.1 ha]; simp)

theorem Tiny.more {m : Nat} {l q : List Att} (h : Tiny m l) (hq : q.length ≤ 6) (hs : ∀ a, a ∈ q → a.1.size ≤ 20 ∧ a.2.size ≤ 30) : Tiny (m + 6) (more l q) :=
  ⟨by have := h.len; have := more_len q l; omega, each_more q h.each hs, dist_more q h.dist⟩

theorem Tiny.uniq {q : List Att} (hq : q.length ≤ 6) (hs : ∀ a, a ∈ q → a.1.size ≤ 20 ∧ a.2.size ≤ 30) : Tiny 6 (uniq q) := by
  have := (Tiny.nil 0).more hq hs
  exact this

/-- Only what was made unique matters. -/
theorem more_uniq (l m : List Att) : _root_.Go.Proofs.YtgjkfpmhgidpaaaGreat.more l (_root_.Go.Proofs.YtgjkfpmhgidpaaaGreat.uniq m) = _root_.Go.Proofs.YtgjkfpmhgidpaaaGreat.more l m := by
  suffices h : ∀ n, ∀ m : List Att, m.length = n → _root_.Go.Proofs.YtgjkfpmhgidpaaaGreat.more l (_root_.Go.Proofs.YtgjkfpmhgidpaaaGreat.uniq m) = _root_.Go.Proofs.YtgjkfpmhgidpaaaGreat.more l m from h _ m rfl
  intro n
  induction n with
  | zero => intro m hm; rw [List.eq_nil_of_length_eq_zero hm]; rfl
  | succ n ih =>
    intro m hm
    rcases List.eq_nil_or_concat m with rfl | ⟨q, a, rfl⟩
    · rfl
    · rw [List.concat_eq_append] at hm ⊢
      have hq : q.length = n := by simpa using hm
      have e1 : _root_.Go.Proofs.YtgjkfpmhgidpaaaGreat.uniq (q ++ [a]) = add (_root_.Go.Proofs.YtgjkfpmhgidpaaaGreat.uniq q) a := more_snoc [] q a
      have hh : hasN (_root_.Go.Proofs.YtgjkfpmhgidpaaaGreat.uniq q) a.1 = hasN q a.1 := by unfold hasN; rw [getF_uniq]
      rw [e1, more_snoc]
      unfold add
      rw [hh]
      by_cases hN : hasN q a.1 = true
      · rw [if_pos hN, ih q hq]
        have : hasN (_root_.Go.Proofs.YtgjkfpmhgidpaaaGreat.more l q) a.1 = true := by
          unfold hasN at hN ⊢
          rw [getF_more]
          cases getF l a.1 with
          | none => exact hN
          | some y => rfl
        rw [if_pos this]
      · rw [if_neg hN, more_snoc, ih q hq]; rfl

/-- How much there may be behind so many calls. -/
structure Sz (k : Nat) (a : Ar) : Prop where
  n : a.n ≤ 1 + 2 * k
  lbs : ∀ x, (a.lb x).name.size ≤ 9 ∧ (a.lb x).text.size ≤ 9 * k ∧ Tiny (6 * k) (a.lb x).attrs

theorem Sz.succ {k m : Nat} {a : Ar} (h : a.Sz k) (hm : k ≤ m) : a.Sz m :=
  ⟨by have := h.n; omega, fun x => ⟨(h.lbs x).1, by have := (h.lbs x).2.1; omega, (h.lbs x).2.2.mono (by omega)⟩⟩
theorem Sz.same {k : Nat} {a b : Ar} (h : a.Sz k) (h1 : b.n = a.n) (h2 : b.lb = a.lb) : b.Sz k := ⟨by rw [h1]; exact h.n, by rw [h2]; exact h.lbs⟩
theorem Sz.new {k : Nat} {a : Ar} (h : a.Sz k) {l : Lb} (h1 : l.name.size ≤ 9) (h2 : l.text.size ≤ 9) (h3 : Tiny 6 l.attrs) : (a.new l).Sz (k + 1) := by
  refine ⟨by have := h.n; show a.n + 1 ≤ _; omega, fun x => ?_⟩
  show ((if x = a.n then l else a.lb x) : Lb).name.size ≤ 9 ∧ _ ∧ Tiny _ ((if x = a.n then l else a.lb x) : Lb).attrs
  by_cases hx : x = a.n
  · rw [if_pos hx]; exact ⟨h1, by show ((if x = a.n then l else a.lb x) : Lb).text.size ≤ _; rw [if_pos hx]; omega, h3.mono (by omega)⟩
  · rw [if_neg hx]; exact ⟨(h.lbs x).1, by show ((if x = a.n then l else a.lb x) : Lb).text.size ≤ _; rw [if_neg hx]; have := (h.lbs x).2.1; omega, (h.lbs x).2.2.mono (by omega)⟩
theorem Sz.newT {k : Nat} {a : Ar} (h : a.Sz k) {l : Lb} (h1 : l.name.size ≤ 9) (h2 : l.text.size ≤ 9) (h3 : Tiny 6 l.attrs) : (a.newT l).Sz (k + 1) := by
  have g := h.new h1 h2 h3
  refine ⟨by have := h.n; show a.n + 1 + 1 ≤ _; omega, fun x => ?_⟩
  have e : (a.newT l).lb x = if x = a.n + 1 then (6, 0, ⟨#[]⟩, [], ⟨#[]⟩) else (a.new l).lb x := rfl
  by_cases hx : x = a.n + 1
  · rw [e, if_pos hx]; exact ⟨Nat.zero_le _, Nat.zero_le _, Tiny.nil _⟩
  · rw [e, if_neg hx]; exact g.lbs x
theorem Sz.tell {k m : Nat} {a : Ar} (h : a.Sz k) (hm : k ≤ m) (x : Nat) {l : Lb} (h1 : l.name.size ≤ 9) (h2 : l.text.size ≤ 9 * m) (h3 : Tiny (6 * m) l.attrs) : (a.tell x l).Sz m := by
  refine ⟨by have := h.n; show a.n ≤ _; omega, fun y => ?_⟩
  have e : (a.tell x l).lb y = if y = x then l else a.lb y := rfl
  by_cases hy : y = x
  · rw [e, if_pos hy]; exact ⟨h1, h2, h3⟩
  · rw [e, if_neg hy]; exact (h.succ hm).lbs y

theorem Sz.first : first.Sz 0 := ⟨Nat.le_refl _, fun _ => ⟨Nat.zero_le _, Nat.zero_le _, Tiny.nil _⟩⟩

theorem Sz.mkF {k : Nat} {a : Ar} (h : a.Sz k) (kind ns : Int) {name : ByteArray} {u : List Att} {text : ByteArray} (h1 : name.size ≤ 9) (h2 : text.size ≤ 9) (h3 : Tiny 6 u) : (a.mkF kind ns name u text).1.Sz (k + 1) := by
  unfold Ar.mkF
  have g := h.succ (Nat.le_succ k)
  (repeat' split)
  · exact g
  · exact g
  · exact h.newT h1 (Nat.zero_le _) h3
  · exact h.new h1 (Nat.zero_le _) h3
  · exact h.new h1 (Nat.zero_le _) (Tiny.nil _)
  · exact h.new (Nat.zero_le _) h2 (Tiny.nil _)
theorem Sz.appF {k : Nat} {a : Ar} (h : a.Sz k) (p x : Int) : (a.appF p x).1.Sz k := by
  unfold Ar.appF
  (repeat' split) <;> first | exact h | exact h.same rfl rfl
theorem Sz.befF {k : Nat} {a : Ar} (h : a.Sz k) (p x : Int) : (a.befF p x).1.Sz k := by
  unfold Ar.befF
  (repeat' split) <;> first | exact h | exact h.same rfl rfl
theorem Sz.detF {k : Nat} {a : Ar} (h : a.Sz k) (x : Int) : (a.detF x).1.Sz k := by
  unfold Ar.detF
  (repeat' split) <;> first | exact h | exact h.same rfl rfl
theorem Sz.movF {k : Nat} {a : Ar} (h : a.Sz k) (hf : a.Ful) (f t : Int) : (a.movF f t).1.Sz k := by
  unfold Ar.movF
  split
  · exact h
  rename_i h1
  split
  · exact h
  rename_i h2
  split
  · exact h
  rename_i h4
  simp only [not_or, Bool.not_eq_false, Bool.not_eq_true] at h1 h2 h4
  have ht := (there_lt h1.2).1
  obtain ⟨_, e1, e2⟩ := Ful.movs (f := f.toNat) _ a hf (hf.one _) (fun x hx => (hf.link _ x).1 hx) ht h2.2 (wn_false hf.toOk ht h4)
  exact h.same e1 e2
theorem size_cat (s t : ByteArray) : (s ++ t).size = s.size + t.size := ByteArray.size_append
theorem Sz.txt {k : Nat} {a : Ar} (h : a.Sz k) (p i : Nat) {s : ByteArray} (hs : s.size ≤ 9) : (a.txt p i s).Sz (k + 1) := by
  unfold Ar.txt
  have g := h.succ (Nat.le_succ k)
  have hn : ((a.new (4, 0, ⟨#[]⟩, [], s)).put p i a.n).Sz (k + 1) := (h.new (l := (4, 0, ⟨#[]⟩, [], s)) (Nat.zero_le _) hs (Tiny.nil _)).same rfl rfl
  split
  · exact g
  split
  · split
    · rename_i z _ _
      have gl := h.lbs z
      refine h.tell (Nat.le_succ k) z gl.1 ?_ (gl.2.2.mono (by omega))
      show ((a.lb z).text ++ s).size ≤ _
      rw [size_cat]
      have := gl.2.1
      omega
    · exact hn
  · exact hn
theorem Sz.wrF {k : Nat} {a : Ar} (h : a.Sz k) (p : Int) {s : ByteArray} (hs : s.size ≤ 9) : (a.wrF p s).1.Sz (k + 1) := by
  unfold Ar.wrF
  (repeat' split) <;> first | exact h.succ (Nat.le_succ k) | exact h.txt _ _ hs
theorem Sz.wbF {k : Nat} {a : Ar} (h : a.Sz k) (p : Int) {s : ByteArray} (hs : s.size ≤ 9) : (a.wbF p s).1.Sz (k + 1) := by
  unfold Ar.wbF
  (repeat' split) <;> first | exact h.succ (Nat.le_succ k) | exact h.txt _ _ hs
theorem Sz.morF {k : Nat} {a : Ar} (h : a.Sz k) (x : Int) {q : List Att} (hq : q.length ≤ 6) (hs : ∀ a, a ∈ q → a.1.size ≤ 20 ∧ a.2.size ≤ 30) : (a.morF x (fun l => _root_.Go.Proofs.YtgjkfpmhgidpaaaGreat.more l q)).1.Sz (k + 1) := by
  unfold Ar.morF
  split
  · exact h.succ (Nat.le_succ k)
  split
  · exact h.succ (Nat.le_succ k)
  · have gl := h.lbs x.toNat
    exact h.tell (Nat.le_succ k) _ gl.1 (by show (a.lb x.toNat).text.size ≤ _; have := gl.2.1; omega) ((gl.2.2.more hq hs).mono (by omega))

end Ar
end Go.Proofs.YtgjkfpmhgidpaaaGreat

/-
  Trees that are not too great.
-/
namespace Go.Proofs.YtgjkfpmhgidpaaaGreat
open Go.RowKit
set_option linter.unusedVariables false

/-- A label that is not too great. -/
def okL (l : Lb) : Prop := l.attrs.length ≤ 8000 ∧ fits l.attrs

/-- A tree that is not too great. -/
def okT (l : Lb) (k : Fo) : Prop := (Fo.cons l k .nil).Each okL ∧ k.cnt ≤ 20000

end Go.Proofs.YtgjkfpmhgidpaaaGreat

/-
  Arenas by themselves: below a node stand no more than there are. No program.
-/
namespace Go.Proofs.YtgjkfpmhgidpaaaGreat
set_option linter.unusedVariables false
set_option linter.unusedSimpArgs false

namespace Ar

/-- All below a node, so many steps down. -/
def dsc (a : Ar) : Nat → Nat → List Nat
  | 0, _ => []
  | f + 1, x => (a.kids x).flatMap fun c => c :: a.dsc f c

theorem dsc_wn {a : Ar} (h : a.Ok) : ∀ (f x y : Nat), y ∈ a.dsc f x → ∃ c, a.up c = some x ∧ a.Wn y c
  | 0, x, y, hy => by cases hy
  | f + 1, x, y, hy => by
    unfold dsc at hy
    obtain ⟨c, hc, hy⟩ := List.mem_flatMap.1 hy
    have hu := (h.link x c).1 hc
    rcases List.mem_cons.1 hy with rfl | hy
    · exact ⟨y, hu, Wn.refl a y⟩
    · obtain ⟨c', hu', hw⟩ := dsc_wn h f c y hy
      exact ⟨c, hu, hw.trans (Wn.step hu' (Wn.refl a c))⟩

theorem Wn.lin {a : Ar} {y c c' : Nat} (h : a.Wn y c) (g : a.Wn y c') : a.Wn c c' ∨ a.Wn c' c := by
  obtain ⟨k, e⟩ := h
  induction k generalizing y with
  | zero =>
    obtain rfl : y = c := by simpa [anc] using e
    exact .inl g
  | succ k ih =>
    cases hu : a.up y with
    | none => simp [anc, hu] at e
    | some p =>
      rcases (Wn.some hu).1 g with rfl | g
      · exact .inr ⟨k + 1, e⟩
      · exact ih g (by simpa [anc, hu] using e)

theorem Ok.sib {a : Ar} (h : a.Ok) {x c c' y : Nat} (hc : a.up c = some x) (hc' : a.up c' = some x) (hn : c ≠ c') (h1 : a.Wn y c) (h2 : a.Wn y c') : False := by
  rcases h1.lin h2 with g | g
  · rcases (Wn.some hc).1 g with e | g
    · exact hn e
    · exact h.not_up hc' g
  · rcases (Wn.some hc').1 g with e | g
    · exact hn e.symm
    · exact h.not_up hc g

theorem dsc_nodup {a : Ar} (h : a.Ok) : ∀ (f x : Nat), (a.dsc f x).Nodup
  | 0, _ => List.nodup_nil
  | f + 1, x => by
    have key : ∀ l : List Nat, l.Nodup → (∀ c ∈ l, a.up c = some x) → (l.flatMap fun c => c :: a.dsc f c).Nodup := fun l => by
      induction l with
      | nil => exact fun _ _ => List.nodup_nil
      | cons c cs ih =>
        intro hn hu
        have hn' := List.nodup_cons.1 hn
        rw [List.flatMap_cons, List.nodup_append]
        refine ⟨List.nodup_cons.2 ⟨fun hm => ?_, dsc_nodup h f c⟩, ih hn'.2 (fun z hz => hu z (List.mem_cons_of_mem _ hz)), fun y hy z hz e => ?_⟩
        · obtain ⟨c', hu', hw⟩ := dsc_wn h f c c hm
          exact h.not_up hu' hw
        · subst e
          have w1 : a.Wn y c := by
            rcases List.mem_cons.1 hy with rfl | hy
            · exact Wn.refl a y
            · obtain ⟨c', hu', hw⟩ := dsc_wn h f c y hy
              exact hw.trans (Wn.step hu' (Wn.refl a c))
          obtain ⟨c2, hc2, hz⟩ := List.mem_flatMap.1 hz
          have w2 : a.Wn y c2 := by
            rcases List.mem_cons.1 hz with rfl | hz
            · exact Wn.refl a y
            · obtain ⟨c', hu', hw⟩ := dsc_wn h f c2 y hz
              exact hw.trans (Wn.step hu' (Wn.refl a c2))
          exact h.sib (hu c (List.mem_cons_self ..)) (hu c2 (List.mem_cons_of_mem _ hc2)) (fun e => hn'.1 (e ▸ hc2)) w1 w2
    exact key _ (h.one x) (fun c hc => (h.link x c).1 hc)

theorem dsc_lt {a : Ar} (h : a.Ok) : ∀ (f x y : Nat), y ∈ a.dsc f x → y < a.n
  | 0, x, y, hy => by cases hy
  | f + 1, x, y, hy => by
    unfold dsc at hy
    obtain ⟨c, hc, hy⟩ := List.mem_flatMap.1 hy
    rcases List.mem_cons.1 hy with rfl | hy
    · exact (h.kid_lt hc).1
    · exact dsc_lt h f c y hy

theorem tr_cnt {a : Ar} : ∀ (f x : Nat) (r : Fo), (a.tr f x r).cnt = 1 + (a.dsc f x).length + r.cnt
  | 0, x, r => rfl
  | f + 1, x, r => by
    unfold tr dsc
    rw [Fo.cnt_cons]
    have key : ∀ l : List Nat, (l.foldr (a.tr f) Fo.nil).cnt = (l.flatMap fun c => c :: a.dsc f c).length := fun l => by
      induction l with
      | nil => rfl
      | cons c cs ih =>
        rw [List.foldr_cons, tr_cnt f c, ih, List.flatMap_cons, List.length_append, List.length_cons]
        omega
    rw [key]

theorem Ok.below_cnt {a : Ar} (h : a.Ok) (x : Nat) : (a.below x).cnt ≤ a.n := by
  have e : (a.tr (a.n + 1) x .nil).cnt = 1 + (a.below x).cnt := by
    show (Fo.cons (a.lb x) (a.below x) Fo.nil).cnt = _
    rw [Fo.cnt_cons, Fo.cnt_nil]; omega
  rw [tr_cnt, Fo.cnt_nil] at e
  have := pig a.n (a.dsc (a.n + 1) x) (dsc_nodup h _ x) (dsc_lt h _ x)
  omega

theorem tr_each {a : Ar} {P : Lb → Prop} (hp : ∀ x, P (a.lb x)) : ∀ (f x : Nat) (r : Fo), r.Each P → (a.tr f x r).Each P
  | 0, x, r, hr => (Fo.each_cons ..).2 ⟨hp x, Fo.each_nil P, hr⟩
  | f + 1, x, r, hr => by
    unfold tr
    refine (Fo.each_cons ..).2 ⟨hp x, ?_, hr⟩
    have key : ∀ l : List Nat, (l.foldr (a.tr f) Fo.nil).Each P := fun l => by
      induction l with
      | nil => exact Fo.each_nil P
      | cons c cs ih => exact tr_each hp f c _ ih
    exact key _

theorem below_each {a : Ar} {P : Lb → Prop} (hp : ∀ x, P (a.lb x)) (x : Nat) : (a.below x).Each P :=
  ((Fo.each_cons P (a.lb x) (a.below x) Fo.nil).1 (tr_each hp (a.n + 1) x .nil (Fo.each_nil P))).2.1

theorem Ok.okT {a : Ar} (h : a.Ok) (hn : a.n ≤ 20000) (hp : ∀ x, okL (a.lb x)) (x : Nat) : okT (a.lb x) (a.below x) :=
  ⟨(Fo.each_cons ..).2 ⟨hp x, below_each hp x, Fo.each_nil _⟩, Nat.le_trans (h.below_cnt x) hn⟩

end Ar
end Go.Proofs.YtgjkfpmhgidpaaaGreat
