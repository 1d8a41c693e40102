/-
  Trees by themselves: rows of nodes, each with a row of kids: no program.
-/
import Derived.Test.YtngbpbgohpblmaaSame
import Derived.Test.YtngbpbgohpblmaaSmall
namespace Go.Proofs.Ytngbpbgohpblmaa
set_option linter.unusedVariables false

/-- What a node has by itself: Kind, NS, Name, Attrs, Text. -/
abbrev Lb := Int × Int × ByteArray × List Att × ByteArray
abbrev Lb.kind (l : Lb) : Int := l.1
abbrev Lb.ns (l : Lb) : Int := l.2.1
abbrev Lb.name (l : Lb) : ByteArray := l.2.2.1
abbrev Lb.attrs (l : Lb) : List Att := l.2.2.2.1
abbrev Lb.text (l : Lb) : ByteArray := l.2.2.2.2

/-- A row of nodes: empty, or a node, its kids, and the rest of the row. -/
structure Fo where
  yes : Bool
  lb : yes = true → Lb
  kids : yes = true → Fo
  rest : yes = true → Fo

namespace Fo

def nil : Fo := ⟨false, fun h => absurd h Bool.false_ne_true, fun h => absurd h Bool.false_ne_true, fun h => absurd h Bool.false_ne_true⟩
def cons (l : Lb) (k r : Fo) : Fo := ⟨true, fun _ => l, fun _ => k, fun _ => r⟩

theorem ind {P : Fo → Prop} (h0 : P nil) (h1 : ∀ l k r, P k → P r → P (cons l k r)) : ∀ f, P f
  | ⟨false, l, k, r⟩ => by
    have e : (⟨false, l, k, r⟩ : Fo) = nil := by
      unfold nil
      congr 1 <;> funext h <;> exact absurd h Bool.false_ne_true
    rw [e]; exact h0
  | ⟨true, l, k, r⟩ => h1 (l rfl) (k rfl) (r rfl) (ind h0 h1 (k rfl)) (ind h0 h1 (r rfl))

theorem cases {P : Fo → Prop} (f : Fo) (h0 : P nil) (h1 : ∀ l k r, P (cons l k r)) : P f := ind h0 (fun l k r _ _ => h1 l k r) f

/-- How many in the row. -/
def len : Fo → Nat
  | ⟨false, _, _, _⟩ => 0
  | ⟨true, _, _, r⟩ => (r rfl).len + 1
theorem len_nil : nil.len = 0 := rfl
theorem len_cons (l : Lb) (k r : Fo) : (cons l k r).len = r.len + 1 := rfl
attribute [simp] len_nil len_cons

/-- How many nodes in all. -/
def cnt : Fo → Nat
  | ⟨false, _, _, _⟩ => 0
  | ⟨true, _, k, r⟩ => 1 + (k rfl).cnt + (r rfl).cnt
theorem cnt_nil : nil.cnt = 0 := rfl
theorem cnt_cons (l : Lb) (k r : Fo) : (cons l k r).cnt = 1 + k.cnt + r.cnt := rfl
attribute [simp] cnt_nil cnt_cons

/-- How deep. -/
def dep : Fo → Nat
  | ⟨false, _, _, _⟩ => 0
  | ⟨true, _, k, r⟩ => max ((k rfl).dep + 1) (r rfl).dep
theorem dep_nil : nil.dep = 0 := rfl
theorem dep_cons (l : Lb) (k r : Fo) : (cons l k r).dep = max (k.dep + 1) r.dep := rfl
attribute [simp] dep_nil dep_cons

/-- One row behind another. -/
def app : Fo → Fo → Fo
  | ⟨false, _, _, _⟩, g => g
  | ⟨true, l, k, r⟩, g => cons (l rfl) (k rfl) ((r rfl).app g)
theorem app_nil (g : Fo) : nil.app g = g := rfl
theorem app_cons (l : Lb) (k r g : Fo) : (cons l k r).app g = cons l k (r.app g) := rfl
attribute [simp] app_nil app_cons

theorem app_nil' (f : Fo) : f.app nil = f := by
  refine ind (P := fun f => f.app nil = f) rfl (fun l k r _ hr => ?_) f
  rw [app_cons, hr]

theorem app_assoc (f g h : Fo) : (f.app g).app h = f.app (g.app h) := by
  refine ind (P := fun f => (f.app g).app h = f.app (g.app h)) rfl (fun l k r _ hr => ?_) f
  simp only [app_cons, hr]

theorem len_app (f g : Fo) : (f.app g).len = f.len + g.len := by
  refine ind (P := fun f => (f.app g).len = f.len + g.len) (by simp) (fun l k r _ hr => ?_) f
  simp only [app_cons, len_cons, hr]; omega

theorem cnt_app (f g : Fo) : (f.app g).cnt = f.cnt + g.cnt := by
  refine ind (P := fun f => (f.app g).cnt = f.cnt + g.cnt) (by simp) (fun l k r _ hr => ?_) f
  simp only [app_cons, cnt_cons, hr]; omega

theorem dep_app (f g : Fo) : (f.app g).dep = max f.dep g.dep := by
  refine ind (P := fun f => (f.app g).dep = max f.dep g.dep) (by simp) (fun l k r _ hr => ?_) f
  simp only [app_cons, dep_cons, hr]; omega

theorem len_le_cnt (f : Fo) : f.len ≤ f.cnt := by
  refine ind (P := fun f => f.len ≤ f.cnt) (Nat.le_refl _) (fun l k r _ hr => ?_) f
  simp only [len_cons, cnt_cons]; omega

theorem dep_le_cnt (f : Fo) : f.dep ≤ f.cnt := by
  refine ind (P := fun f => f.dep ≤ f.cnt) (Nat.le_refl _) (fun l k r hk hr => ?_) f
  simp only [dep_cons, cnt_cons]; omega

theorem len_zero {f : Fo} : f.len = 0 ↔ f = nil := by
  refine cases (P := fun f => f.len = 0 ↔ f = nil) f ⟨fun _ => rfl, fun _ => rfl⟩ (fun l k r => ⟨fun h => ?_, fun h => ?_⟩)
  · simp at h
  · have := congrArg len h; simp at this

/-- What stands behind the first n. -/
def drop : Nat → Fo → Fo
  | 0, f => f
  | _ + 1, ⟨false, _, _, _⟩ => nil
  | n + 1, ⟨true, _, _, r⟩ => (r rfl).drop n
theorem drop_zero (f : Fo) : f.drop 0 = f := by unfold drop; rfl
theorem drop_nil (n : Nat) : nil.drop n = nil := by cases n <;> rfl
theorem drop_cons (n : Nat) (l : Lb) (k r : Fo) : (cons l k r).drop (n + 1) = r.drop n := rfl
attribute [simp] drop_zero drop_nil drop_cons

/-- The first n. -/
def take : Nat → Fo → Fo
  | 0, _ => nil
  | _ + 1, ⟨false, _, _, _⟩ => nil
  | n + 1, ⟨true, l, k, r⟩ => cons (l rfl) (k rfl) ((r rfl).take n)
theorem take_zero (f : Fo) : f.take 0 = nil := by unfold take; rfl
theorem take_nil (n : Nat) : nil.take n = nil := by cases n <;> rfl
theorem take_cons (n : Nat) (l : Lb) (k r : Fo) : (cons l k r).take (n + 1) = cons l k (r.take n) := rfl
attribute [simp] take_zero take_nil take_cons

theorem take_drop (n : Nat) (f : Fo) : (f.take n).app (f.drop n) = f := by
  induction n generalizing f with
  | zero => simp
  | succ n ih => exact cases (P := fun f => (f.take (n + 1)).app (f.drop (n + 1)) = f) f rfl (fun l k r => by simp only [take_cons, drop_cons, app_cons, ih])

theorem len_drop (n : Nat) (f : Fo) : (f.drop n).len = f.len - n := by
  induction n generalizing f with
  | zero => simp
  | succ n ih => exact cases (P := fun f => (f.drop (n + 1)).len = f.len - (n + 1)) f (by simp) (fun l k r => by simp only [drop_cons, len_cons, ih]; omega)

/-- A node stands at each place of the row. -/
theorem at_lt {n : Nat} {f : Fo} (h : n < f.len) : ∃ l k, f.drop n = cons l k (f.drop (n + 1)) := by
  induction n generalizing f with
  | zero =>
    revert h
    exact cases (P := fun f => 0 < f.len → ∃ l k, f.drop 0 = cons l k (f.drop (0 + 1))) f (fun h => absurd h (by simp)) (fun l k r _ => ⟨l, k, by simp⟩)
  | succ n ih =>
    revert h
    exact cases (P := fun f => n + 1 < f.len → ∃ l k, f.drop (n + 1) = cons l k (f.drop (n + 1 + 1))) f (fun h => absurd h (by simp)) (fun l k r h => by
      obtain ⟨l', k', e⟩ := ih (f := r) (by simpa using h)
      exact ⟨l', k', by rw [drop_cons, drop_cons]; exact e⟩)

theorem take_succ {n : Nat} {f : Fo} {l : Lb} {k : Fo} (e : f.drop n = cons l k (f.drop (n + 1))) : f.take (n + 1) = (f.take n).app (cons l k nil) := by
  induction n generalizing f with
  | zero =>
    revert e
    exact cases (P := fun f => f.drop 0 = cons l k (f.drop (0 + 1)) → f.take (0 + 1) = (f.take 0).app (cons l k nil)) f (fun h => by have := congrArg len h; simp at this) (fun l' k' r h => by
      simp only [drop_zero] at h
      unfold cons at h
      simp only [mk.injEq, heq_eq_eq, true_and] at h
      have h1 := congrFun h.1 rfl
      have h2 := congrFun h.2.1 rfl
      subst h1; subst h2
      simp)
  | succ n ih =>
    revert e
    exact cases (P := fun f => f.drop (n + 1) = cons l k (f.drop (n + 1 + 1)) → f.take (n + 1 + 1) = (f.take (n + 1)).app (cons l k nil)) f (fun h => by have := congrArg len h; simp at this) (fun l' k' r h => by
      rw [drop_cons, drop_cons] at h
      rw [take_cons, take_cons, app_cons, ih h])

/-- What holds of each node of the row. -/
def All (C : Lb → Fo → Prop) : Fo → Prop
  | ⟨false, _, _, _⟩ => True
  | ⟨true, l, k, r⟩ => C (l rfl) (k rfl) ∧ (r rfl).All C
theorem all_nil (C : Lb → Fo → Prop) : nil.All C := trivial
theorem all_cons (C : Lb → Fo → Prop) (l : Lb) (k r : Fo) : (cons l k r).All C ↔ C l k ∧ r.All C := Iff.rfl
attribute [simp] all_cons

theorem all_drop {C : Lb → Fo → Prop} (n : Nat) {f : Fo} (h : f.All C) : (f.drop n).All C := by
  induction n generalizing f with
  | zero => simpa using h
  | succ n ih =>
    revert h
    exact cases (P := fun f => f.All C → (f.drop (n + 1)).All C) f (fun _ => all_nil C) (fun l k r h => ih ((all_cons ..).1 h).2)

/-- What goes up from a node's kids to the node holds of every node. -/
theorem all_up {C : Lb → Fo → Prop} (h : ∀ l k, k.All C → C l k) (f : Fo) : f.All C :=
  ind (P := fun f => f.All C) (all_nil C) (fun l k r hk hr => (all_cons ..).2 ⟨h l k hk, hr⟩) f

theorem up {C : Lb → Fo → Prop} (h : ∀ l k, k.All C → C l k) (l : Lb) (k : Fo) : C l k := h l k (all_up h k)

/-- The texts of the nodes that are told, in order. -/
def fold (g : Lb → ByteArray) : Fo → ByteArray
  | ⟨false, _, _, _⟩ => ⟨#[]⟩
  | ⟨true, l, k, r⟩ => g (l rfl) ++ (k rfl).fold g ++ (r rfl).fold g
theorem fold_nil (g : Lb → ByteArray) : nil.fold g = ⟨#[]⟩ := rfl
theorem fold_cons (g : Lb → ByteArray) (l : Lb) (k r : Fo) : (cons l k r).fold g = g l ++ k.fold g ++ r.fold g := rfl
attribute [simp] fold_nil fold_cons

/-- A line for each node, with so much ahead of it. -/
def show_ (g : Lb → ByteArray) : Fo → ByteArray → ByteArray
  | ⟨false, _, _, _⟩, _ => ⟨#[]⟩
  | ⟨true, l, k, r⟩, a => a ++ g (l rfl) ++ ⟨#[10]⟩ ++ (k rfl).show_ g (a ++ ⟨#[32, 32]⟩) ++ (r rfl).show_ g a
theorem show_nil (g : Lb → ByteArray) (a : ByteArray) : nil.show_ g a = ⟨#[]⟩ := rfl
theorem show_cons (g : Lb → ByteArray) (a : ByteArray) (l : Lb) (k r : Fo) : (cons l k r).show_ g a = a ++ g l ++ ⟨#[10]⟩ ++ k.show_ g (a ++ ⟨#[32, 32]⟩) ++ r.show_ g a := rfl
attribute [simp] show_nil show_cons

/-- The same nodes, in the same order. -/
def same (q : Lb → Lb → Bool) : Fo → Fo → Bool
  | ⟨false, _, _, _⟩, ⟨false, _, _, _⟩ => true
  | ⟨true, l, k, r⟩, ⟨true, l', k', r'⟩ => q (l rfl) (l' rfl) && (k rfl).same q (k' rfl) && (r rfl).same q (r' rfl)
  | _, _ => false
theorem same_nil (q : Lb → Lb → Bool) : nil.same q nil = true := rfl
theorem same_cons (q : Lb → Lb → Bool) (l l' : Lb) (k k' r r' : Fo) : (cons l k r).same q (cons l' k' r') = (q l l' && k.same q k' && r.same q r') := rfl
theorem same_nc (q : Lb → Lb → Bool) (l : Lb) (k r : Fo) : nil.same q (cons l k r) = false := rfl
theorem same_cn (q : Lb → Lb → Bool) (l : Lb) (k r : Fo) : (cons l k r).same q nil = false := rfl
attribute [simp] same_nil same_cons same_nc same_cn

theorem same_eq {q : Lb → Lb → Bool} (hq : ∀ a b, q a b = true ↔ a = b) {f : Fo} : ∀ g, f.same q g = true ↔ f = g := by
  refine ind (P := fun f => ∀ g, f.same q g = true ↔ f = g) (fun g => ?_) (fun l k r hk hr g => ?_) f
  · exact cases (P := fun g => nil.same q g = true ↔ nil = g) g (by simp) (fun l k r => ⟨fun h => by simp at h, fun h => by have := congrArg len h; simp at this⟩)
  · refine cases (P := fun g => (cons l k r).same q g = true ↔ cons l k r = g) g ⟨fun h => by simp at h, fun h => by have := congrArg len h; simp at this⟩ (fun l' k' r' => ?_)
    simp only [same_cons, Bool.and_eq_true, hq, hk, hr]
    constructor
    · rintro ⟨⟨rfl, rfl⟩, rfl⟩; rfl
    · intro h
      unfold cons at h
      simp only [mk.injEq, heq_eq_eq, true_and] at h
      exact ⟨⟨congrFun h.1 rfl, congrFun h.2.1 rfl⟩, congrFun h.2.2 rfl⟩

/-- A node's kids turned, at one place of the row. -/
def turn (g : Fo → Fo) : Nat → Fo → Fo
  | _, ⟨false, _, _, _⟩ => nil
  | 0, ⟨true, l, k, r⟩ => cons (l rfl) (g (k rfl)) (r rfl)
  | n + 1, ⟨true, l, k, r⟩ => cons (l rfl) (k rfl) ((r rfl).turn g n)
theorem turn_zero (g : Fo → Fo) (l : Lb) (k r : Fo) : (cons l k r).turn g 0 = cons l (g k) r := rfl
theorem turn_succ (g : Fo → Fo) (n : Nat) (l : Lb) (k r : Fo) : (cons l k r).turn g (n + 1) = cons l k (r.turn g n) := rfl
attribute [simp] turn_zero turn_succ

theorem len_turn (g : Fo → Fo) (n : Nat) (f : Fo) : (f.turn g n).len = f.len := by
  induction n generalizing f with
  | zero => exact cases (P := fun f => (f.turn g 0).len = f.len) f rfl (fun l k r => rfl)
  | succ n ih => exact cases (P := fun f => (f.turn g (n + 1)).len = f.len) f rfl (fun l k r => by rw [turn_succ, len_cons, len_cons, ih])

/-- The kids of the node at a place of the row. -/
def under (f : Fo) (n : Nat) : Fo := match f.drop n with
  | ⟨false, _, _, _⟩ => nil
  | ⟨true, _, k, _⟩ => k rfl

theorem under_of {f : Fo} {n : Nat} {l : Lb} {k r : Fo} (e : f.drop n = cons l k r) : f.under n = k := by
  unfold under
  rw [e]; rfl

theorem drop_turn (g : Fo → Fo) {n : Nat} {f : Fo} {l : Lb} {k r : Fo} (e : f.drop n = cons l k r) : (f.turn g n).drop n = cons l (g k) r := by
  induction n generalizing f with
  | zero => rw [drop_zero] at e; subst e; rfl
  | succ n ih =>
    revert e
    exact cases (P := fun f => f.drop (n + 1) = cons l k r → (f.turn g (n + 1)).drop (n + 1) = cons l (g k) r) f (fun h => by have := congrArg len h; simp at this) (fun l' k' r' h => by
      rw [drop_cons] at h
      rw [turn_succ, drop_cons, ih h])

theorem cnt_turn (g : Fo → Fo) {n : Nat} {f : Fo} {l : Lb} {k r : Fo} (e : f.drop n = cons l k r) : (f.turn g n).cnt + k.cnt = f.cnt + (g k).cnt := by
  induction n generalizing f with
  | zero => rw [drop_zero] at e; subst e; simp only [turn_zero, cnt_cons]; omega
  | succ n ih =>
    revert e
    exact cases (P := fun f => f.drop (n + 1) = cons l k r → (f.turn g (n + 1)).cnt + k.cnt = f.cnt + (g k).cnt) f (fun h => by have := congrArg len h; simp at this) (fun l' k' r' h => by
      rw [drop_cons] at h
      have := ih h
      simp only [turn_succ, cnt_cons]; omega)

/-- What holds of each label of all nodes. -/
def Each (P : Lb → Prop) : Fo → Prop
  | ⟨false, _, _, _⟩ => True
  | ⟨true, l, k, r⟩ => P (l rfl) ∧ (k rfl).Each P ∧ (r rfl).Each P
theorem each_nil (P : Lb → Prop) : nil.Each P := trivial
theorem each_cons (P : Lb → Prop) (l : Lb) (k r : Fo) : (cons l k r).Each P ↔ P l ∧ k.Each P ∧ r.Each P := Iff.rfl

theorem each_app {P : Lb → Prop} {f g : Fo} (hf : f.Each P) (hg : g.Each P) : (f.app g).Each P := by
  revert hf
  exact ind (P := fun f => f.Each P → (f.app g).Each P) (fun _ => hg) (fun l k r _ hr h => ⟨h.1, h.2.1, hr h.2.2⟩) f

theorem each_turn {P : Lb → Prop} {g : Fo → Fo} {n : Nat} {f : Fo} (hf : f.Each P) (hg : (f.under n).Each P → (g (f.under n)).Each P) : (f.turn g n).Each P := by
  induction n generalizing f with
  | zero =>
    revert hf hg
    exact cases (P := fun f => f.Each P → ((f.under 0).Each P → (g (f.under 0)).Each P) → (f.turn g 0).Each P) f (fun _ _ => trivial) (fun l k r h hg => ⟨h.1, by
      have e : (cons l k r).under 0 = k := under_of (drop_zero _)
      rw [e] at hg
      exact hg h.2.1, h.2.2⟩)
  | succ n ih =>
    revert hf hg
    exact cases (P := fun f => f.Each P → ((f.under (n + 1)).Each P → (g (f.under (n + 1))).Each P) → (f.turn g (n + 1)).Each P) f (fun _ _ => trivial) (fun l k r h hg => ⟨h.1, h.2.1, ih h.2.2 (by
      have e : (cons l k r).under (n + 1) = r.under n := rfl
      rw [e] at hg
      exact hg)⟩)

theorem each_under {P : Lb → Prop} (n : Nat) {f : Fo} (hf : f.Each P) : (f.under n).Each P := by
  induction n generalizing f with
  | zero =>
    revert hf
    exact cases (P := fun f => f.Each P → (f.under 0).Each P) f (fun _ => trivial) (fun l k r h => by
      rw [under_of (drop_zero (cons l k r))]; exact h.2.1)
  | succ n ih =>
    revert hf
    exact cases (P := fun f => f.Each P → (f.under (n + 1)).Each P) f (fun _ => trivial) (fun l k r h => ih (f := r) h.2.2)

theorem each_mono {P Q : Lb → Prop} (hq : ∀ l, P l → Q l) {f : Fo} (hf : f.Each P) : f.Each Q := by
  revert hf
  exact ind (P := fun f => f.Each P → f.Each Q) (fun _ => trivial) (fun l k r hk hr h => ⟨hq _ h.1, hk h.2.1, hr h.2.2⟩) f

theorem cat_none (s : ByteArray) : s ++ (⟨#[]⟩ : ByteArray) = s := ByteArray.append_empty
theorem none_cat (s : ByteArray) : (⟨#[]⟩ : ByteArray) ++ s = s := ByteArray.empty_append

theorem fold_app (g : Lb → ByteArray) (f h : Fo) : (f.app h).fold g = f.fold g ++ h.fold g := by
  refine ind (P := fun f => (f.app h).fold g = f.fold g ++ h.fold g) (by simp only [app_nil, fold_nil]; exact (none_cat _).symm) (fun l k r _ hr => ?_) f
  simp only [app_cons, fold_cons, hr, ByteArray.append_assoc]

theorem show_app (g : Lb → ByteArray) (f h : Fo) (a : ByteArray) : (f.app h).show_ g a = f.show_ g a ++ h.show_ g a := by
  refine ind (P := fun f => (f.app h).show_ g a = f.show_ g a ++ h.show_ g a) (by simp only [app_nil, show_nil]; exact (none_cat _).symm) (fun l k r _ hr => ?_) f
  simp only [app_cons, show_cons, hr, ByteArray.append_assoc]

/-- How many of the bytes end a line. -/
def lfs (s : ByteArray) : Nat := (s.data.toList.filter (· == 10)).length

theorem lfs_app (s t : ByteArray) : lfs (s ++ t) = lfs s + lfs t := by
  simp [lfs, ByteArray.data_append]

/-- As many lines as nodes, if no node's line has an end of one in it. -/
theorem show_lines {g : Lb → ByteArray} {f : Fo} : ∀ a, lfs a = 0 → f.Each (fun l => lfs (g l) = 0) → lfs (f.show_ g a) = f.cnt := by
  refine ind (P := fun f => ∀ a, lfs a = 0 → f.Each (fun l => lfs (g l) = 0) → lfs (f.show_ g a) = f.cnt) (fun a _ _ => rfl) (fun l k r hk hr a ha h => ?_) f
  have e : lfs (a ++ ⟨#[32, 32]⟩) = 0 := by rw [lfs_app, ha]; rfl
  have n1 : lfs ⟨#[10]⟩ = 1 := rfl
  simp only [show_cons, lfs_app, cnt_cons, ha, h.1, hk _ e h.2.1, hr _ ha h.2.2, n1, Nat.zero_add, Nat.add_zero]

end Fo

end Go.Proofs.Ytngbpbgohpblmaa
