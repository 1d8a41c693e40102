/-
  What the chapter's judgement is, and how the trees that are asked are grown: no program.
-/
import Derived.Test.YtngbpbgohpblmaaTrees
namespace Go.Proofs.Ytngbpbgohpblmaa
set_option linter.unusedVariables false

def NON : ByteArray := ⟨#[]⟩
def TMPL : ByteArray := ⟨#[116, 101, 109, 112, 108, 97, 116, 101]⟩

/-- Are the fields that a node does not have zero? (n: how many kids.) -/
def aloneF (l : Lb) (n : Nat) : Bool :=
  if l.kind = 3 then decide ((l.ns = 1 ∨ l.ns = 2) ∧ ¬ l.name = NON ∧ l.text = NON ∧ (uniq l.attrs).length = l.attrs.length)
  else if l.kind = 4 then decide (l.ns = 0 ∧ l.name = NON ∧ l.attrs.length = 0 ∧ ¬ l.text = NON ∧ n = 0)
  else if l.kind = 5 then decide (l.ns = 0 ∧ l.name = NON ∧ l.attrs.length = 0 ∧ n = 0)
  else if l.kind = 2 then decide (l.ns = 0 ∧ l.text = NON ∧ l.attrs.length = 0 ∧ n = 0)
  else if l.kind = 1 ∨ l.kind = 6 then decide (l.ns = 0 ∧ l.name = NON ∧ l.text = NON ∧ l.attrs.length = 0)
  else false

def tmplF (l : Lb) : Bool := decide (l.kind = 3 ∧ l.ns = 1 ∧ l.name = TMPL)

/-- A node by itself and how many kids it has, without what stands below. -/
def selfF (l : Lb) (n : Nat) : Bool := aloneF l n && !(tmplF l && decide (n = 0))

/-- May it stand here: under p, as the first one or not, behind a Text or not. -/
def hereF (p : Lb) (first text : Bool) (l : Lb) : Bool :=
  !decide (l.kind = 1) && !(decide (l.kind = 2) && !decide (p.kind = 1)) && !(decide (l.kind = 4) && (decide (p.kind = 1) || text)) && (decide (l.kind = 6) == (tmplF p && first))

/-- The kids of p, from a place of the row on. -/
def kidsF : Fo → Lb → Bool → Bool → Bool
  | ⟨false, _, _, _⟩, _, _, _ => true
  | ⟨true, l, k, r⟩, p, first, text => hereF p first text (l rfl) && (selfF (l rfl) (k rfl).len && kidsF (k rfl) (l rfl) true false) && kidsF (r rfl) p false (decide ((l rfl).kind = 4))

theorem kids_nil (p : Lb) (first text : Bool) : kidsF .nil p first text = true := rfl
theorem kids_cons (p l : Lb) (k r : Fo) (first text : Bool) : kidsF (.cons l k r) p first text = (hereF p first text l && (selfF l k.len && kidsF k l true false) && kidsF r p false (decide (l.kind = 4))) := rfl

/-- Below the top one. -/
def belowF (l : Lb) (k : Fo) : Bool := selfF l k.len && kidsF k l true false

def rightF (l : Lb) (k : Fo) : Bool := decide (l.kind = 1) && belowF l k

/-- What is always let at the end of a row under p, is let there. -/
theorem kids_more {p x : Lb} {y : Fo} (hx : ∀ a b, hereF p a b x = true) (hy : belowF x y = true) (f : Fo) : ∀ first text, kidsF (f.app (.cons x y .nil)) p first text = kidsF f p first text := by
  refine Fo.ind (P := fun f => ∀ first text, kidsF (f.app (.cons x y .nil)) p first text = kidsF f p first text) (fun a b => ?_) (fun l k r _ hr a b => ?_) f
  · rw [Fo.app_nil, kids_cons, hx, kids_nil, kids_nil]
    unfold belowF at hy
    rw [hy]; rfl
  · rw [Fo.app_cons, kids_cons, kids_cons, hr]

/-- The attributes of a line, behind s. -/
def lineA : List Att → ByteArray → ByteArray
  | [], s => s
  | a :: l, s => lineA l (s ++ ⟨#[32]⟩ ++ a.1 ++ ⟨#[61, 34]⟩ ++ a.2 ++ ⟨#[34]⟩)

theorem lineA_snoc (l : List Att) (a : Att) (s : ByteArray) : lineA (l ++ [a]) s = lineA l s ++ ⟨#[32]⟩ ++ a.1 ++ ⟨#[61, 34]⟩ ++ a.2 ++ ⟨#[34]⟩ := by
  induction l generalizing s with
  | nil => rfl
  | cons b l ih => exact ih _

def lineF (l : Lb) : ByteArray :=
  if l.kind = 2 then ⟨#[60, 33]⟩ ++ l.name ++ ⟨#[62]⟩
  else if l.kind = 4 then ⟨#[34]⟩ ++ l.text ++ ⟨#[34]⟩
  else if l.kind = 5 then ⟨#[60, 33, 45, 45, 32]⟩ ++ l.text ++ ⟨#[32, 45, 45, 62]⟩
  else if l.kind = 6 then ⟨#[99, 111, 110, 116, 101, 110, 116]⟩
  else if l.kind = 3 then lineA l.attrs ((if l.ns = 2 then ⟨#[60, 115, 118, 103, 58]⟩ else ⟨#[60]⟩) ++ l.name) ++ ⟨#[62]⟩
  else ⟨#[63]⟩

theorem line_lfs {l : Lb} (h1 : Fo.lfs l.name = 0) (h2 : Fo.lfs l.text = 0) (h3 : l.attrs = []) : Fo.lfs (lineF l) = 0 := by
  have e1 : Fo.lfs ⟨#[60, 33]⟩ = 0 := rfl
  have e2 : Fo.lfs ⟨#[62]⟩ = 0 := rfl
  have e3 : Fo.lfs ⟨#[34]⟩ = 0 := rfl
  have e4 : Fo.lfs ⟨#[60, 33, 45, 45, 32]⟩ = 0 := rfl
  have e5 : Fo.lfs ⟨#[32, 45, 45, 62]⟩ = 0 := rfl
  have e6 : Fo.lfs ⟨#[99, 111, 110, 116, 101, 110, 116]⟩ = 0 := rfl
  have e7 : Fo.lfs ⟨#[60, 115, 118, 103, 58]⟩ = 0 := rfl
  have e8 : Fo.lfs ⟨#[60]⟩ = 0 := rfl
  have e9 : Fo.lfs ⟨#[63]⟩ = 0 := rfl
  unfold lineF
  split
  · simp only [Fo.lfs_app, e1, e2, h1]
  split
  · simp only [Fo.lfs_app, e3, h2]
  split
  · simp only [Fo.lfs_app, e4, e5, h2]
  split
  · exact e6
  split
  · rw [h3]
    unfold lineA
    split <;> simp only [Fo.lfs_app, e2, e7, e8, h1]
  · exact e9

def textF (l : Lb) : ByteArray := if l.kind = 4 then l.text else NON

/-- What Count, Depth, Text, Show and Same tell of a tree. -/
def countT (l : Lb) (k : Fo) : Nat := 1 + k.cnt
def depthT (l : Lb) (k : Fo) : Nat := k.dep + 1
def textT (l : Lb) (k : Fo) : ByteArray := textF l ++ k.fold textF
def showT (l : Lb) (k : Fo) : ByteArray := k.show_ lineF NON
def sameL (a b : Lb) : Bool := decide (a = b)
def sameT (a : Lb) (f : Fo) (b : Lb) (g : Fo) : Bool := sameL a b && f.same sameL g

theorem sameT_iff (a : Lb) (f : Fo) (b : Lb) (g : Fo) : sameT a f b g = true ↔ a = b ∧ f = g := by
  unfold sameT
  rw [Bool.and_eq_true, Fo.same_eq (fun a b => by simp [sameL]) g]
  simp [sameL]

theorem sameT_comm (a : Lb) (f : Fo) (b : Lb) (g : Fo) : sameT a f b g = sameT b g a f := by
  rw [Bool.eq_iff_iff, sameT_iff, sameT_iff]
  exact ⟨fun h => ⟨h.1.symm, h.2.symm⟩, fun h => ⟨h.1.symm, h.2.symm⟩⟩

/-- May it hold no others? -/
def leafF (l : Lb) : Bool := decide (l.kind = 4 ∨ l.kind = 5 ∨ l.kind = 2)

/-- A node at the end of the one that a way leads to, and the way to it. -/
def underF (x : Lb) (y : Fo) : List Nat → Fo → Fo × List Nat
  | [], f => (f.app (.cons x y .nil), if leafF x then [] else [f.len])
  | i :: ws, f => (f.turn (fun k => (underF x y ws k).1) i, i :: (underF x y ws (f.under i)).2)

/-- The way leads to nodes that are there. -/
def Way : List Nat → Fo → Prop
  | [], _ => True
  | i :: ws, f => i < f.len ∧ Way ws (f.under i)

theorem Way.take {f : Fo} {ws : List Nat} (h : Way ws f) (n : Nat) : Way (ws.take n) f := by
  induction ws generalizing f n with
  | nil => simp [Way]
  | cons i ws ih =>
    cases n with
    | zero => simp [Way]
    | succ n => exact ⟨h.1, ih h.2 n⟩

theorem Way.grown {x : Lb} {y : Fo} {ws : List Nat} {f : Fo} (h : Way ws f) : Way (underF x y ws f).2 (underF x y ws f).1 := by
  induction ws generalizing f with
  | nil =>
    unfold underF
    split
    · trivial
    · exact ⟨by rw [Fo.len_app]; simp, trivial⟩
  | cons i ws ih =>
    obtain ⟨h1, h2⟩ := h
    obtain ⟨l, k, e⟩ := Fo.at_lt h1
    rw [Fo.under_of e] at h2
    refine ⟨by rw [show (underF x y (i :: ws) f).1 = f.turn (fun k => (underF x y ws k).1) i from rfl, Fo.len_turn]; exact h1, ?_⟩
    rw [show (underF x y (i :: ws) f).1 = f.turn (fun k => (underF x y ws k).1) i from rfl, Fo.under_of (Fo.drop_turn _ e), Fo.under_of e]
    exact ih h2

theorem under_cnt {x : Lb} {y : Fo} {ws : List Nat} {f : Fo} (h : Way ws f) : (underF x y ws f).1.cnt = f.cnt + 1 + y.cnt := by
  induction ws generalizing f with
  | nil => unfold underF; rw [Fo.cnt_app, Fo.cnt_cons, Fo.cnt_nil]; omega
  | cons i ws ih =>
    obtain ⟨h1, h2⟩ := h
    obtain ⟨l, k, e⟩ := Fo.at_lt h1
    rw [Fo.under_of e] at h2
    have := Fo.cnt_turn (fun k => (underF x y ws k).1) e
    simp only [ih h2] at this
    show (f.turn (fun k => (underF x y ws k).1) i).cnt = _
    omega

theorem under_len {x : Lb} {y : Fo} {ws : List Nat} {f : Fo} : (underF x y ws f).2.length ≤ ws.length + 1 := by
  induction ws generalizing f with
  | nil => unfold underF; split <;> simp
  | cons i ws ih => have := ih (f := f.under i); simp only [underF, List.length_cons]; omega

theorem under_each {P : Lb → Prop} {x : Lb} {y : Fo} (hx : P x) (hy : y.Each P) {ws : List Nat} {f : Fo} (hf : f.Each P) : (underF x y ws f).1.Each P := by
  induction ws generalizing f with
  | nil => exact Fo.each_app hf ⟨hx, hy, trivial⟩
  | cons i ws ih => exact Fo.each_turn hf (fun h => ih h)

/-- One node more: how many steps up, and the node. -/
def growS (t : Fo × List Nat) (n : Int × Lb × Fo) : Fo × List Nat := underF n.2.1 n.2.2 (t.2.take (t.2.length - wi n.1 t.2.length)) t.1

def growF (l : List (Int × Lb × Fo)) : Fo × List Nat := l.foldl growS (.nil, [])

theorem grow_snoc (l : List (Int × Lb × Fo)) (n : Int × Lb × Fo) : growF (l ++ [n]) = growS (growF l) n := by
  simp [growF, List.foldl_append]

theorem grow_way (l : List (Int × Lb × Fo)) : Way (growF l).2 (growF l).1 := by
  suffices h : ∀ (l : List (Int × Lb × Fo)) t, Way t.2 t.1 → Way (l.foldl growS t).2 (l.foldl growS t).1 from h l _ trivial
  intro l
  induction l with
  | nil => exact fun t h => h
  | cons n l ih => exact fun t h => ih _ (Way.grown (h.take _))

theorem grow_len (l : List (Int × Lb × Fo)) : (growF l).2.length ≤ l.length := by
  suffices h : ∀ (l : List (Int × Lb × Fo)) t, (l.foldl growS t).2.length ≤ t.2.length + l.length by have := h l (.nil, []); simpa [growF] using this
  intro l
  induction l with
  | nil => exact fun t => by simp
  | cons n l ih =>
    intro t
    have h1 := ih (growS t n)
    have h2 : (growS t n).2.length ≤ (t.2.take (t.2.length - wi n.1 t.2.length)).length + 1 := under_len
    simp only [List.length_take, List.foldl_cons, List.length_cons] at *
    omega

theorem grow_cnt (l : List (Int × Lb × Fo)) (h : ∀ n, n ∈ l → n.2.2.cnt ≤ 1) : (growF l).1.cnt ≤ 2 * l.length := by
  suffices h : ∀ (l : List (Int × Lb × Fo)) t, (∀ n, n ∈ l → n.2.2.cnt ≤ 1) → Way t.2 t.1 → (l.foldl growS t).1.cnt ≤ t.1.cnt + 2 * l.length by have := h l (.nil, []) ‹_› trivial; simpa [growF] using this
  intro l
  induction l with
  | nil => exact fun t _ _ => by simp
  | cons n l ih =>
    intro t h w
    have h1 := ih (growS t n) (fun m hm => h m (by simp [hm])) (Way.grown (w.take _))
    have h2 : (growS t n).1.cnt = t.1.cnt + 1 + n.2.2.cnt := under_cnt (w.take _)
    have h3 := h n (by simp)
    simp only [List.foldl_cons, List.length_cons] at *
    omega

theorem grow_each {P : Lb → Prop} (l : List (Int × Lb × Fo)) (h : ∀ n, n ∈ l → P n.2.1 ∧ n.2.2.Each P) : (growF l).1.Each P := by
  suffices h : ∀ (l : List (Int × Lb × Fo)) t, (∀ n, n ∈ l → P n.2.1 ∧ n.2.2.Each P) → t.1.Each P → (l.foldl growS t).1.Each P from h l (.nil, []) ‹_› trivial
  intro l
  induction l with
  | nil => exact fun t _ h => h
  | cons n l ih => exact fun t h ht => ih _ (fun m hm => h m (by simp [hm])) (under_each (h n (by simp)).1 (h n (by simp)).2 ht)

/-- A node that may be. -/
def madeF (k ns : Int) (name text : ByteArray) : Lb × Fo :=
  if wi k 1000 % 4 = 0 then ((5, 0, NON, [], text), .nil)
  else if wi k 1000 % 4 = 1 ∧ ¬ text = NON then ((4, 0, NON, [], text), .nil)
  else if wi k 1000 % 4 = 2 then ((3, 1, TMPL, [], NON), .cons (6, 0, NON, [], NON) .nil .nil)
  else ((3, 1 + (wi ns 1 : Int), ⟨#[120]⟩ ++ name, [], NON), .nil)

theorem made_cnt (k ns : Int) (name text : ByteArray) : (madeF k ns name text).2.cnt ≤ 1 := by
  unfold madeF
  split
  · simp
  split
  · simp
  split <;> simp

theorem made_plain {name text : ByteArray} (h1 : Fo.lfs name = 0) (h2 : Fo.lfs text = 0) (k ns : Int) : (fun l : Lb => Fo.lfs (lineF l) = 0) (madeF k ns name text).1 ∧ (madeF k ns name text).2.Each (fun l => Fo.lfs (lineF l) = 0) := by
  unfold madeF
  split
  · exact ⟨line_lfs rfl h2 rfl, trivial⟩
  split
  · exact ⟨line_lfs rfl h2 rfl, trivial⟩
  split
  · exact ⟨line_lfs rfl rfl rfl, ⟨line_lfs rfl rfl rfl, trivial, trivial⟩⟩
  · exact ⟨line_lfs (by show Fo.lfs (⟨#[120]⟩ ++ name) = 0; rw [Fo.lfs_app, h1]; rfl) rfl rfl, trivial⟩

/-- So many elements, one within the other, around a row. -/
def chainF (l : Lb) (f : Fo) : Nat → Fo
  | 0 => f
  | n + 1 => .cons l (chainF l f n) .nil

theorem chain_len {l : Lb} {f : Fo} (h : f.len = 1) : ∀ n, (chainF l f n).len = 1
  | 0 => h
  | n + 1 => rfl

theorem chain_cnt (l : Lb) (f : Fo) : ∀ n, (chainF l f n).cnt = n + f.cnt
  | 0 => by simp [chainF]
  | n + 1 => by rw [chainF, Fo.cnt_cons, chain_cnt l f n, Fo.cnt_nil]; omega

theorem chain_dep (l : Lb) (f : Fo) : ∀ n, (chainF l f n).dep = n + f.dep
  | 0 => by simp [chainF]
  | n + 1 => by rw [chainF, Fo.dep_cons, chain_dep l f n, Fo.dep_nil]; omega

theorem chain_fold {g : Lb → ByteArray} {l : Lb} (hl : g l = NON) (f : Fo) : ∀ n, (chainF l f n).fold g = f.fold g
  | 0 => rfl
  | n + 1 => by rw [chainF, Fo.fold_cons, chain_fold hl f n, Fo.fold_nil, hl]; exact (Fo.cat_none _).trans (Fo.none_cat _)

/-- A chain of elements is right below a node, if its last row is right under one of them and under the node. -/
theorem chain_kids {p l : Lb} {f : Fo} (hp : hereF p true false l = true) (hh : hereF l true false l = true) (hl : ∀ n, 0 < n → selfF l n = true) (hf : f.len = 1) (h1 : kidsF f l true false = true) (h2 : kidsF f p true false = true) : ∀ n, kidsF (chainF l f n) p true false = true ∧ kidsF (chainF l f n) l true false = true
  | 0 => ⟨h2, h1⟩
  | n + 1 => by
    have ih := (chain_kids hp hh hl hf h1 h2 n).2
    have hs := hl (chainF l f n).len (by rw [chain_len hf]; exact Nat.one_pos)
    exact ⟨by rw [chainF, kids_cons, hp, hs, ih, kids_nil]; rfl, by rw [chainF, kids_cons, hh, hs, ih, kids_nil]; rfl⟩

end Go.Proofs.Ytngbpbgohpblmaa
