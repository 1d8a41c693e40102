/-
  Lists of attributes by themselves: what Get, Add, More, Unique, Alike are. No program.
-/
import Derived.Test.YtfobbgmfbpoigaaRow
import Derived.Laws.StructEq
namespace Go.Proofs.Ytfobbgmfbpoigaa

/-- Are two texts the same? -/
def eqs (x y : ByteArray) : Bool := x.toList == y.toList

theorem eqs_iff {x y : ByteArray} : eqs x y = true ↔ x = y := by
  unfold eqs
  rw [beq_iff_eq, ByteArray.toList_eq, ByteArray.toList_eq]
  exact ⟨fun h => ByteArray.ext (Array.ext' h), fun h => by rw [h]⟩

theorem eqs_refl (x : ByteArray) : eqs x x = true := eqs_iff.2 rfl

theorem eqs_comm (x y : ByteArray) : eqs x y = eqs y x := by
  rw [Bool.eq_iff_iff, eqs_iff, eqs_iff]
  exact eq_comm

/-- The first one of that name. -/
def getF (l : List Att) (x : ByteArray) : Option Att := l.find? fun a => eqs a.1 x

/-- Where it stands. -/
def idx (l : List Att) (x : ByteArray) : Option Nat := l.findIdx? fun a => eqs a.1 x

def hasN (l : List Att) (x : ByteArray) : Bool := (getF l x).isSome

def add (l : List Att) (a : Att) : List Att := if hasN l a.1 then l else l ++ [a]

def more (l m : List Att) : List Att := m.foldl add l

def uniq (l : List Att) : List Att := more [] l

/-- Does the list have the attribute as its first of that name? -/
def okIn (b : List Att) (x : Att) : Bool := (getF b x.1).any fun y => eqs y.2 x.2

def alike (a b : List Att) : Bool := (uniq a).all (okIn b) && (uniq a).length == (uniq b).length

theorem getF_append (l m : List Att) (x : ByteArray) : getF (l ++ m) x = (getF l x).or (getF m x) := by
  unfold getF
  rw [List.find?_append]

theorem getF_name {l : List Att} {x : ByteArray} {a : Att} (h : getF l x = some a) : a.1 = x := eqs_iff.1 (List.find?_some (p := fun a : Att => eqs a.1 x) h)

theorem getF_mem {l : List Att} {x : ByteArray} {a : Att} (h : getF l x = some a) : a ∈ l := List.mem_of_find?_eq_some h

theorem getF_none {l : List Att} {x : ByteArray} (h : getF l x = none) : ∀ a, a ∈ l → a.1 ≠ x := by
  intro a ha e
  have := List.find?_eq_none.1 h a ha
  exact this (eqs_iff.2 e)

theorem getF_one (a : Att) (x : ByteArray) : getF [a] x = if eqs a.1 x then some a else none := by
  unfold getF
  rw [List.find?_cons]
  cases eqs a.1 x <;> simp

theorem getF_add (l : List Att) (a : Att) (x : ByteArray) : getF (add l a) x = (getF l x).or (getF [a] x) := by
  unfold add
  by_cases h : hasN l a.1 = true
  · rw [if_pos h]
    rw [getF_one]
    cases hx : eqs a.1 x
    · simp
    · obtain rfl := eqs_iff.1 hx
      unfold hasN at h
      cases hg : getF l a.1 with
      | none => rw [hg] at h; cases h
      | some y => rfl
  · rw [if_neg h, getF_append]

theorem more_cons (l m : List Att) (a : Att) : more l (a :: m) = more (add l a) m := rfl

theorem more_snoc (l m : List Att) (a : Att) : more l (m ++ [a]) = add (more l m) a := by
  unfold more
  rw [List.foldl_append]
  rfl

theorem getF_more (m : List Att) : ∀ (l : List Att) (x : ByteArray), getF (more l m) x = (getF l x).or (getF m x) := by
  induction m with
  | nil =>
    intro l x
    show getF l x = (getF l x).or none
    rw [Option.or_none]
  | cons a m ih =>
    intro l x
    rw [more_cons, ih, getF_add, Option.or_assoc, ← getF_append]
    rfl

theorem getF_uniq (l : List Att) (x : ByteArray) : getF (uniq l) x = getF l x := by
  unfold uniq
  rw [getF_more]
  rfl

/-- No two of one name. -/
def Dist (l : List Att) : Prop := List.Pairwise (fun a b : Att => a.1 ≠ b.1) l

theorem dist_add {l : List Att} (h : Dist l) (a : Att) : Dist (add l a) := by
  unfold add
  by_cases hh : hasN l a.1 = true
  · rw [if_pos hh]; exact h
  · rw [if_neg hh]
    have hg : getF l a.1 = none := by
      unfold hasN at hh
      cases hx : getF l a.1 with
      | none => rfl
      | some y => rw [hx] at hh; exact absurd rfl hh
    unfold Dist
    rw [List.pairwise_append]
    refine ⟨h, by simp, fun x hx y hy => ?_⟩
    simp only [List.mem_singleton] at hy
    subst hy
    exact getF_none hg x hx

theorem dist_more (m : List Att) : ∀ {l : List Att}, Dist l → Dist (more l m) := by
  induction m with
  | nil => exact fun h => h
  | cons a m ih => exact fun h => ih (dist_add h a)

theorem dist_uniq (l : List Att) : Dist (uniq l) := dist_more l List.Pairwise.nil

theorem Dist.get {l : List Att} (h : Dist l) {a : Att} (ha : a ∈ l) : getF l a.1 = some a := by
  induction l with
  | nil => simp at ha
  | cons b l ih =>
    unfold Dist at h
    rw [List.pairwise_cons] at h
    rcases List.mem_cons.1 ha with rfl | ha
    · unfold getF
      rw [List.find?_cons, eqs_refl]
    · have hne := h.1 a ha
      have : eqs b.1 a.1 = false := by
        cases hx : eqs b.1 a.1
        · rfl
        · exact absurd (eqs_iff.1 hx) hne
      show getF (b :: l) a.1 = _
      unfold getF
      rw [List.find?_cons, this]
      exact ih h.2 ha

theorem mem_uniq {l : List Att} {a : Att} : a ∈ uniq l ↔ getF l a.1 = some a := by
  constructor
  · intro h
    rw [← getF_uniq]
    exact (dist_uniq l).get h
  · intro h
    rw [← getF_uniq] at h
    exact getF_mem h

theorem more_dist (m : List Att) : ∀ (l : List Att), Dist (l ++ m) → more l m = l ++ m := by
  induction m with
  | nil => intro l _; rw [List.append_nil]; rfl
  | cons a m ih =>
    intro l h
    have hn : hasN l a.1 = false := by
      unfold hasN
      cases hx : getF l a.1 with
      | none => rfl
      | some y =>
        unfold Dist at h
        rw [List.pairwise_append] at h
        exact absurd (getF_name hx) (h.2.2 y (getF_mem hx) a (by simp))
    rw [more_cons]
    have : add l a = l ++ [a] := by unfold add; rw [hn]; rfl
    rw [this, ih _ (by simpa using h)]
    simp

theorem uniq_dist {l : List Att} (h : Dist l) : uniq l = l := by
  unfold uniq
  rw [more_dist l [] (by simpa using h)]
  rfl

/-- Lists of the same ones, no two of one name, are alike; so is one that they are the first ones of. -/
theorem alike_of {a b : List Att} (h1 : ∀ x, getF a x.1 = some x → getF b x.1 = some x) (h2 : (uniq a).length = (uniq b).length) : alike a b = true := by
  unfold alike
  rw [Bool.and_eq_true]
  refine ⟨?_, by simpa using h2⟩
  rw [List.all_eq_true]
  intro x hx
  unfold okIn
  rw [h1 x (mem_uniq.1 hx)]
  exact eqs_refl _

/-- What the program asks, place by place. -/
theorem alike_all {a b : List Att} (hl : (uniq a).length = (uniq b).length) (h : ∀ i (hi : i < a.length), idx a a[i].1 = some i → okIn b a[i] = true) : alike a b = true := by
  unfold alike
  rw [Bool.and_eq_true]
  refine ⟨?_, by simpa using hl⟩
  rw [List.all_eq_true]
  intro x hx
  have hg := mem_uniq.1 hx
  unfold getF at hg
  rw [List.find?_eq_some_iff_getElem] at hg
  obtain ⟨_, i, hi, rfl, hlt⟩ := hg
  refine h i hi ?_
  unfold idx
  rw [List.findIdx?_eq_some_iff_getElem]
  exact ⟨hi, eqs_refl _, fun j hj => by simpa using hlt j hj⟩

theorem alike_not {a b : List Att} (i : Nat) (hi : i < a.length) (h : idx a a[i].1 = some i) (hn : okIn b a[i] = false) : alike a b = false := by
  unfold alike
  rw [Bool.and_eq_false_iff]
  left
  rw [List.all_eq_false]
  refine ⟨a[i], ?_, by rw [hn]; simp⟩
  rw [mem_uniq]
  unfold getF
  rw [List.find?_eq_some_iff_getElem]
  unfold idx at h
  rw [List.findIdx?_eq_some_iff_getElem] at h
  obtain ⟨_, h2, h3⟩ := h
  exact ⟨h2, i, hi, rfl, fun j hj => by simpa using h3 j hj⟩

/-- The first place, and what stands there. -/
theorem idx_get {l : List Att} {x : ByteArray} {i : Nat} (h : idx l x = some i) : ∃ hi : i < l.length, getF l x = some l[i] := by
  unfold idx at h
  rw [List.findIdx?_eq_some_iff_getElem] at h
  obtain ⟨hi, h2, h3⟩ := h
  refine ⟨hi, ?_⟩
  unfold getF
  rw [List.find?_eq_some_iff_getElem]
  exact ⟨h2, i, hi, rfl, fun j hj => by simpa using h3 j hj⟩

theorem idx_none {l : List Att} {x : ByteArray} : idx l x = none ↔ getF l x = none := by
  unfold idx getF
  rw [List.findIdx?_eq_none_iff, List.find?_eq_none]
  simp

theorem idx_some {l : List Att} {x : ByteArray} : (idx l x).isSome = hasN l x := by
  unfold hasN
  cases h : idx l x with
  | none => rw [idx_none.1 h]; rfl
  | some i =>
    obtain ⟨hi, h2⟩ := idx_get h
    rw [h2]
    rfl

theorem idx_snoc (l : List Att) (a : Att) (x : ByteArray) : idx (l ++ [a]) x = (idx l x).or (if eqs a.1 x then some l.length else none) := by
  unfold idx
  rw [List.findIdx?_append]
  congr 1
  rw [List.findIdx?_cons]
  cases eqs a.1 x <;> simp

/-- From a place on. -/
theorem idx_drop {l : List Att} {x : ByteArray} {k : Nat} (hk : k < l.length) (h : ∀ j (hj : j < k), eqs (l[j]'(by omega)).1 x = false) (hx : eqs l[k].1 x = true) : idx l x = some k := by
  unfold idx
  rw [List.findIdx?_eq_some_iff_getElem]
  exact ⟨hk, hx, fun j hj => by simpa using h j hj⟩

theorem idx_end {l : List Att} {x : ByteArray} (h : ∀ j (hj : j < l.length), eqs l[j].1 x = false) : idx l x = none := by
  unfold idx
  rw [List.findIdx?_eq_none_iff]
  intro a ha
  obtain ⟨j, hj, rfl⟩ := List.getElem_of_mem ha
  exact h j hj

/-- Of texts that are not too long. -/
def fits (l : List Att) : Prop := ∀ a, a ∈ l → a.1.size ≤ 140737488355328 ∧ a.2.size ≤ 140737488355328

theorem fits_append {l m : List Att} (h1 : fits l) (h2 : fits m) : fits (l ++ m) := fun a ha => (List.mem_append.1 ha).elim (h1 a) (h2 a)

theorem fits_add {l : List Att} {a : Att} (h1 : fits l) (h2 : fits [a]) : fits (add l a) := by
  unfold add
  split
  · exact h1
  · exact fits_append h1 h2

theorem fits_more (m : List Att) : ∀ {l : List Att}, fits l → fits m → fits (more l m) := by
  induction m with
  | nil => exact fun h _ => h
  | cons a m ih => exact fun h1 h2 => ih (fits_add h1 (fun x hx => h2 x (by simp at hx; simp [hx]))) (fun x hx => h2 x (List.mem_cons_of_mem _ hx))

theorem add_len (l : List Att) (a : Att) : (add l a).length ≤ l.length + 1 := by
  unfold add
  split <;> simp

theorem more_len (m : List Att) : ∀ l : List Att, (more l m).length ≤ l.length + m.length := by
  induction m with
  | nil => intro l; exact Nat.le_refl _
  | cons a m ih =>
    intro l
    have := ih (add l a)
    have := add_len l a
    rw [more_cons, List.length_cons]
    omega

end Go.Proofs.Ytfobbgmfbpoigaa
