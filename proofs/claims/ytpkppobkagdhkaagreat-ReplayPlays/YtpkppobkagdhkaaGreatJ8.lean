/-
  Joined: Grown LotsB LotsC RefU Zero.
-/
import Derived.Test.YtpkppobkagdhkaaGreatJ6
import Derived.Test.YtpkppobkagdhkaaGreatJ3
import Derived.Test.YtpkppobkagdhkaaGreatJ7
import Derived.Deep.Cut

/-
  What the chapter's judgement is, and how the trees that are asked are grown: no program.
-/
namespace Go.Proofs.YtpkppobkagdhkaaGreat
set_option linter.unusedVariables false

def TMPL : ByteArray := ⟨#[116, 101, 109, 112, 108, 97, 116, 101]⟩

def tmplF (l : Lb) : Bool := decide (l.kind = 3 ∧ l.ns = 1 ∧ l.name = TMPL)

def sameL (a b : Lb) : Bool := decide (a = b)
def sameT (a : Lb) (f : Fo) (b : Lb) (g : Fo) : Bool := sameL a b && f.same sameL g

theorem sameT_iff (a : Lb) (f : Fo) (b : Lb) (g : Fo) : sameT a f b g = true ↔ a = b ∧ f = g := by
  unfold sameT
  rw [Bool.and_eq_true, Fo.same_eq (fun a b => by simp [sameL]) g]
  simp [sameL]

theorem sameT_comm (a : Lb) (f : Fo) (b : Lb) (g : Fo) : sameT a f b g = sameT b g a f := by
  rw [Bool.eq_iff_iff, sameT_iff, sameT_iff]
  exact ⟨fun h => ⟨h.1.symm, h.2.symm⟩, fun h => ⟨h.1.symm, h.2.symm⟩⟩

/-- May it hold no others? -/
def leafF (l : Lb) : Bool := decide (l.kind = 4 ∨ l.kind = 5 ∨ l.kind = 2)

/-- A node at the end of the one that a way leads to, and the way to it. -/
def underF (x : Lb) (y : Fo) : List Nat → Fo → Fo × List Nat
  | [], f => (f.app (.cons x y .nil), if leafF x then [] else [f.len])
  | i :: ws, f => (f.turn (fun k => (underF x y ws k).1) i, i :: (underF x y ws (f.under i)).2)

/-- The way leads to nodes that are there. -/
def Way : List Nat → Fo → Prop
  | [], _ => True
  | i :: ws, f => i < f.len ∧ Way ws (f.under i)

theorem Way.take {f : Fo} {ws : List Nat} (h : Way ws f) (n : Nat) : Way (ws.take n) f := by
  induction ws generalizing f n with
  | nil => simp [Way]
  | cons i ws ih =>
    cases n with
    | zero => simp [Way]
    | succ n => exact ⟨h.1, ih h.2 n⟩

theorem Way.grown {x : Lb} {y : Fo} {ws : List Nat} {f : Fo} (h : Way ws f) : Way (underF x y ws f).2 (underF x y ws f).1 := by
  induction ws generalizing f with
  | nil =>
    unfold underF
    split
    · trivial
    · exact ⟨by rw [Fo.len_app]; simp, trivial⟩
  | cons i ws ih =>
    obtain ⟨h1, h2⟩ := h
    obtain ⟨l, k, e⟩ := Fo.at_lt h1
    rw [Fo.under_of e] at h2
    refine ⟨by rw [show (underF x y (i :: ws) f).1 = f.turn (fun k => (underF x y ws k).1) i from rfl, Fo.len_turn]; exact h1, ?_⟩
    rw [show (underF x y (i :: ws) f).1 = f.turn (fun k => (underF x y ws k).1) i from rfl, Fo.under_of (Fo.drop_turn _ e), Fo.under_of e]
    exact ih h2

end Go.Proofs.YtpkppobkagdhkaaGreat

/-
  Arenas by themselves: Contents, and the calls: no program.
-/
namespace Go.Proofs.YtpkppobkagdhkaaGreat
set_option linter.unusedVariables false
set_option linter.unusedSimpArgs false

namespace Ar

/-- May have kids. -/
def hld (l : Lb) : Bool := decide (l.kind = 1) || decide (l.kind = 3) || decide (l.kind = 6)
/-- Stays where it is. -/
def fix (l : Lb) : Bool := decide (l.kind = 1) || decide (l.kind = 6)

/-- The Document alone is one; Contents are the first kids of templates, of each; none but some may have kids. -/
structure Ful (a : Ar) : Prop extends Ok a where
  doc : ∀ x, x < a.n → ((a.lb x).kind = 1 ↔ x = 0)
  con : ∀ x, x < a.n → (a.lb x).kind = 6 → ∃ p, (a.kids p).head? = some x ∧ tmplF (a.lb p) = true
  has : ∀ p, p < a.n → tmplF (a.lb p) = true → ∃ c, (a.kids p).head? = some c ∧ (a.lb c).kind = 6
  may : ∀ p, a.kids p ≠ [] → hld (a.lb p) = true

theorem fix_doc {l : Lb} (h : fix l = false) : l.kind ≠ 1 ∧ l.kind ≠ 6 := by simpa [fix] using h

theorem head_put {k : List Nat} {i x c : Nat} (h : k.head? = some c) (hi : i ≠ 0) : (k.take i ++ x :: k.drop i).head? = some c := by
  cases k with
  | nil => cases h
  | cons y ys =>
    cases i with
    | zero => exact absurd rfl hi
    | succ i => simpa using h

theorem head_cut {k : List Nat} {x c : Nat} (h : k.head? = some c) (hx : c ≠ x) : (k.erase x).head? = some c := by
  cases k with
  | nil => cases h
  | cons y ys =>
    obtain rfl : y = c := by simpa using h
    rw [List.erase_cons_tail (by simpa using hx)]
    rfl

theorem Ful.put {a : Ar} (h : a.Ful) {p i x : Nat} (hp : p < a.n) (hx : x < a.n) (hh : hld (a.lb p) = true) (hf : fix (a.lb x) = false) (hu : a.up x = none) (hw : ¬ a.Wn p x) (hi : tmplF (a.lb p) = true → i ≠ 0) : (a.put p i x).Ful := by
  have hd := fix_doc hf
  refine ⟨h.toOk.put hp hx (fun e => hd.1 ((h.doc x hx).2 e)) hu hw, h.doc, fun y hy hk => ?_, fun q hq ht => ?_, fun q hq => ?_⟩
  · obtain ⟨q, h1, h2⟩ := h.con y hy hk
    refine ⟨q, ?_, h2⟩
    show (if q = p then _ else _ : List Nat).head? = _
    by_cases e : q = p
    · subst e
      rw [if_pos rfl]; exact head_put h1 (hi h2)
    · rw [if_neg e]; exact h1
  · obtain ⟨c, h1, h2⟩ := h.has q hq ht
    refine ⟨c, ?_, h2⟩
    show (if q = p then _ else _ : List Nat).head? = _
    by_cases e : q = p
    · subst e
      rw [if_pos rfl]; exact head_put h1 (hi ht)
    · rw [if_neg e]; exact h1
  · by_cases e : q = p
    · rw [e]; exact hh
    · have hq' : (if q = p then _ else _ : List Nat) ≠ [] := hq
      rw [if_neg e] at hq'
      exact h.may q hq'

theorem Ful.cut {a : Ar} (h : a.Ful) {x : Nat} (hf : fix (a.lb x) = false) : (a.cut x).Ful := by
  have hd := fix_doc hf
  refine ⟨h.toOk.cut x, h.doc, fun y hy hk => ?_, fun q hq ht => ?_, fun q hq => ?_⟩
  · obtain ⟨q, h1, h2⟩ := h.con y hy hk
    refine ⟨q, ?_, h2⟩
    show (if a.up x = some q then _ else _ : List Nat).head? = _
    split
    · exact head_cut h1 (fun e => hd.2 (e ▸ hk))
    · exact h1
  · obtain ⟨c, h1, h2⟩ := h.has q hq ht
    refine ⟨c, ?_, h2⟩
    show (if a.up x = some q then _ else _ : List Nat).head? = _
    split
    · exact head_cut h1 (fun e => hd.2 (e ▸ h2))
    · exact h1
  · refine h.may q (fun e => hq ?_)
    show (if a.up x = some q then _ else _ : List Nat) = []
    rw [e]; split <;> rfl

theorem Ful.new {a : Ar} (h : a.Ful) {l : Lb} (hf : fix l = false) (ht : tmplF l = false) : (a.new l).Ful := by
  have hd := fix_doc hf
  have hn : ∀ y, y < a.n + 1 → y ≠ a.n → y < a.n := fun y h1 h2 => by omega
  have h0 := h.pos
  refine ⟨h.toOk.new l, fun y hy => ?_, fun y hy hk => ?_, fun q hq hq2 => ?_, fun q hq => ?_⟩
  · show ((if y = a.n then l else a.lb y) : Lb).kind = 1 ↔ y = 0
    by_cases e : y = a.n
    · rw [if_pos e]; exact ⟨fun e2 => absurd e2 hd.1, fun e2 => by omega⟩
    · rw [if_neg e]; exact h.doc y (hn y hy e)
  · replace hk : ((if y = a.n then l else a.lb y) : Lb).kind = 6 := hk
    by_cases e : y = a.n
    · rw [if_pos e] at hk; exact absurd hk hd.2
    · rw [if_neg e] at hk
      obtain ⟨q, h1, h2⟩ := h.con y (hn y hy e) hk
      refine ⟨q, h1, ?_⟩
      show tmplF (if q = a.n then l else a.lb q) = true
      rw [if_neg (fun e => by rw [e, (h.out a.n (Nat.le_refl _)).1] at h1; cases h1)]
      exact h2
  · replace hq2 : tmplF (if q = a.n then l else a.lb q) = true := hq2
    by_cases e : q = a.n
    · rw [if_pos e, ht] at hq2; cases hq2
    · rw [if_neg e] at hq2
      obtain ⟨c, h1, h2⟩ := h.has q (hn q hq e) hq2
      refine ⟨c, h1, ?_⟩
      show ((if c = a.n then l else a.lb c) : Lb).kind = 6
      have hc : c < a.n := (h.kid_lt (List.mem_of_mem_head? h1)).1
      rw [if_neg (by omega)]; exact h2
  · show hld (if q = a.n then l else a.lb q) = true
    rw [if_neg (fun e => hq (by rw [e]; exact (h.out a.n (Nat.le_refl _)).1))]
    exact h.may q hq

/-- A template, with its Content. -/
def newT (a : Ar) (l : Lb) : Ar := ((a.new l).new (6, 0, ⟨#[]⟩, [], ⟨#[]⟩)).put a.n 0 (a.n + 1)

theorem newT_lb (a : Ar) (l : Lb) (y : Nat) : (a.newT l).lb y = if y = a.n + 1 then (6, 0, ⟨#[]⟩, [], ⟨#[]⟩) else if y = a.n then l else a.lb y := rfl
theorem newT_kids {a : Ar} (h : a.Ok) (l : Lb) (y : Nat) : (a.newT l).kids y = if y = a.n then [a.n + 1] else a.kids y := by
  show (if y = a.n then (a.kids a.n).take 0 ++ (a.n + 1) :: (a.kids a.n).drop 0 else a.kids y) = _
  rw [(h.out a.n (Nat.le_refl _)).1]; rfl

theorem Ful.newT {a : Ar} (h : a.Ful) {l : Lb} (ht : tmplF l = true) : (a.newT l).Ful := by
  have hk : l.kind = 3 := by simp [tmplF] at ht; exact ht.1
  have h0 := h.pos
  have hu : ∀ x, a.n ≤ x → a.up x = none := fun x hx => (h.out x hx).2
  have hO : (a.newT l).Ok := by
    refine ((h.toOk.new l).new _).put (show a.n < a.n + 1 + 1 by omega) (show a.n + 1 < a.n + 1 + 1 by omega) (by omega) (hu _ (by omega)) (fun hw => ?_)
    have := (Wn.none (a := (a.new l).new (6, 0, ⟨#[]⟩, [], ⟨#[]⟩)) (x := a.n) (t := a.n + 1) (hu _ (Nat.le_refl _))).1 hw
    omega
  have hN : (a.newT l).n = a.n + 2 := rfl
  refine ⟨hO, fun y hy => ?_, fun y hy hk2 => ?_, fun q hq hq2 => ?_, fun q hq => ?_⟩
  · rw [newT_lb]
    split
    · rename_i e; exact ⟨fun e2 => by simp [Lb.kind] at e2, fun e2 => by omega⟩
    · split
      · rename_i e; exact ⟨fun e2 => (by rw [hk] at e2; exact absurd e2 (by decide)), fun e2 => by omega⟩
      · exact h.doc y (by omega)
  · rw [newT_lb] at hk2
    by_cases e : y = a.n + 1
    · exact ⟨a.n, by rw [newT_kids h.toOk, if_pos rfl, e]; rfl, by rw [newT_lb, if_neg (by omega), if_pos rfl]; exact ht⟩
    · rw [if_neg e] at hk2
      by_cases e2 : y = a.n
      · rw [if_pos e2, hk] at hk2; cases hk2
      · rw [if_neg e2] at hk2
        obtain ⟨q, h1, h2⟩ := h.con y (by omega) hk2
        have hq : q < a.n := (h.kid_lt (List.mem_of_mem_head? h1)).2
        exact ⟨q, by rw [newT_kids h.toOk, if_neg (by omega)]; exact h1, by rw [newT_lb, if_neg (by omega), if_neg (by omega)]; exact h2⟩
  · rw [newT_lb] at hq2
    by_cases e : q = a.n + 1
    · rw [if_pos e] at hq2; simp [tmplF, Lb.kind] at hq2
    · rw [if_neg e] at hq2
      by_cases e2 : q = a.n
      · exact ⟨a.n + 1, by rw [newT_kids h.toOk, if_pos e2]; rfl, by rw [newT_lb, if_pos rfl]⟩
      · rw [if_neg e2] at hq2
        obtain ⟨c, h1, h2⟩ := h.has q (by omega) hq2
        have hc : c < a.n := (h.kid_lt (List.mem_of_mem_head? h1)).1
        exact ⟨c, by rw [newT_kids h.toOk, if_neg e2]; exact h1, by rw [newT_lb, if_neg (by omega), if_neg (by omega)]; exact h2⟩
  · rw [newT_kids h.toOk] at hq
    by_cases e2 : q = a.n
    · rw [newT_lb, if_neg (by omega), if_pos e2]; simp [hld, hk]
    · rw [if_neg e2] at hq
      have hq3 : q < a.n := Nat.lt_of_not_le fun hle => hq (h.out q hle).1
      rw [newT_lb, if_neg (by omega), if_neg e2]
      exact h.may q hq

/-- Told anew, with the same Kind and of one sort. -/
theorem Ful.tell {a : Ar} (h : a.Ful) {x : Nat} {l : Lb} (hk : l.kind = (a.lb x).kind) (ht : tmplF l = tmplF (a.lb x)) : (a.tell x l).Ful := by
  have e1 : ∀ y, ((a.tell x l).lb y).kind = (a.lb y).kind := fun y => by
    show ((if y = x then l else a.lb y) : Lb).kind = _
    split
    · rename_i e; rw [e]; exact hk
    · rfl
  have e2 : ∀ y, tmplF ((a.tell x l).lb y) = tmplF (a.lb y) := fun y => by
    show tmplF (if y = x then l else a.lb y) = _
    split
    · rename_i e; rw [e]; exact ht
    · rfl
  refine ⟨h.toOk.tell x l, fun y hy => by rw [e1]; exact h.doc y hy, fun y hy hk => ?_, fun q hq hq2 => ?_, fun q hq => ?_⟩
  · rw [e1] at hk
    obtain ⟨q, h1, h2⟩ := h.con y hy hk
    exact ⟨q, h1, by rw [e2]; exact h2⟩
  · rw [e2] at hq2
    obtain ⟨c, h1, h2⟩ := h.has q hq hq2
    exact ⟨c, h1, by rw [e1]; exact h2⟩
  · have := h.may q hq
    unfold hld at this ⊢
    rw [e1]; exact this

theorem first_ful : first.Ful := ⟨first_ok, fun x hx => ⟨fun _ => by have : x < 1 := hx; omega, fun _ => rfl⟩, fun x _ hk => by simp [first, Lb.kind] at hk, fun p _ ht => by simp [first, tmplF, Lb.kind] at ht, fun p hp => absurd rfl hp⟩

end Ar
end Go.Proofs.YtpkppobkagdhkaaGreat

/-
  Arenas by themselves: the calls, one by one: no program.
-/
namespace Go.Proofs.YtpkppobkagdhkaaGreat
set_option linter.unusedVariables false
set_option linter.unusedSimpArgs false

namespace Ar

/-- Is x the node t, or below it (told by going up)? -/
def wn (a : Ar) (x t : Nat) : Bool := (List.range a.n).any fun k => a.anc k x == some t

theorem wn_iff {a : Ar} (h : a.Ok) {x t : Nat} (hx : x < a.n) : a.wn x t = true ↔ a.Wn x t := by
  unfold wn
  rw [List.any_eq_true]
  constructor
  · rintro ⟨k, _, e⟩
    exact ⟨k, by simpa using e⟩
  · rintro ⟨k, e⟩
    exact ⟨k, List.mem_range.2 (h.anc_lt hx e), by simpa using e⟩

theorem wn_false {a : Ar} (h : a.Ok) {x t : Nat} (hx : x < a.n) (e : a.wn x t = false) : ¬ a.Wn x t := fun hw => by
  rw [(wn_iff h hx).2 hw] at e; cases e

/-- Is there such a node? -/
def there (a : Ar) (z : Int) : Bool := decide (0 ≤ z ∧ z < a.n)
theorem there_lt {a : Ar} {z : Int} (h : a.there z = true) : z.toNat < a.n ∧ (z.toNat : Int) = z := by
  simp only [there, decide_eq_true_eq] at h; omega

/-- Make (u: its attributes, each name once). -/
def mkF (a : Ar) (kind ns : Int) (name : ByteArray) (u : List Att) (text : ByteArray) : Ar × Int × Int :=
  if kind < 2 ∨ 5 < kind then (a, 0, 23)
  else if kind = 3 then
    if (ns ≠ 1 ∧ ns ≠ 2) ∨ name.size = 0 then (a, 0, 12)
    else if tmplF (3, ns, name, u, ⟨#[]⟩) then (a.newT (3, ns, name, u, ⟨#[]⟩), a.n, 0)
    else (a.new (3, ns, name, u, ⟨#[]⟩), a.n, 0)
  else if kind = 2 then (a.new (2, 0, name, [], ⟨#[]⟩), a.n, 0)
  else (a.new (kind, 0, ⟨#[]⟩, [], text), a.n, 0)

theorem Ful.mkF {a : Ar} (h : a.Ful) (kind ns : Int) (name : ByteArray) (u : List Att) (text : ByteArray) : (a.mkF kind ns name u text).1.Ful := by
  unfold Ar.mkF
  split
  · exact h
  rename_i h1
  split
  · split
    · exact h
    split
    · rename_i ht; exact h.newT ht
    · rename_i ht; exact h.new (by simp [fix, Lb.kind]) (by simpa using ht)
  rename_i h3
  split
  · exact h.new (by simp [fix, Lb.kind]) (by simp [tmplF, Lb.kind])
  · exact h.new (by simp [fix, Lb.kind]; omega) (by simp [tmplF, Lb.kind]; omega)

/-- Append. -/
def appF (a : Ar) (p x : Int) : Ar × Int :=
  if a.there p = false ∨ a.there x = false then (a, 22)
  else if hld (a.lb p.toNat) = false ∨ fix (a.lb x.toNat) = true then (a, 23)
  else if a.up x.toNat ≠ none then (a, 24)
  else if a.wn p.toNat x.toNat = true then (a, 26)
  else (a.put p.toNat (a.kids p.toNat).length x.toNat, 0)

theorem Ful.tmpl_pos {a : Ar} (h : a.Ful) {p : Nat} (hp : p < a.n) (ht : tmplF (a.lb p) = true) : (a.kids p).length ≠ 0 := fun e => by
  obtain ⟨c, h1, _⟩ := h.has p hp ht
  rw [List.length_eq_zero_iff.1 e] at h1; cases h1

theorem Ful.appF {a : Ar} (h : a.Ful) (p x : Int) : (a.appF p x).1.Ful := by
  unfold Ar.appF
  split
  · exact h
  rename_i h1
  split
  · exact h
  rename_i h2
  split
  · exact h
  rename_i h3
  split
  · exact h
  rename_i h4
  simp only [not_or, Bool.not_eq_false, Bool.not_eq_true] at h1 h2 h4
  have hp := (there_lt h1.1).1
  exact h.put hp (there_lt h1.2).1 h2.1 h2.2 (by simpa using h3) (wn_false h.toOk hp h4) (fun ht => h.tmpl_pos hp ht)

/-- Where a node stands among its parent's kids. -/
def place (a : Ar) (p x : Nat) : Nat := (a.kids p).idxOf x

theorem Ful.place_pos {a : Ar} (h : a.Ful) {p x : Nat} (hu : a.up x = some p) (hf : fix (a.lb x) = false) (ht : tmplF (a.lb p) = true) : a.place p x ≠ 0 := fun e => by
  obtain ⟨c, h1, h2⟩ := h.has p (h.lt hu).2 ht
  have hm := (h.link p x).2 hu
  have hd := fix_doc hf
  unfold place at e
  cases hk : a.kids p with
  | nil => rw [hk] at hm; cases hm
  | cons y ys =>
    rw [hk] at h1 e
    obtain rfl : y = c := by simpa using h1
    rw [List.idxOf_cons] at e
    by_cases hy : y = x
    · rw [hy] at h2; exact hd.2 h2
    · have hb : (y == x) = false := by simpa using hy
      rw [hb] at e
      exact absurd e (by simp)

/-- Before. -/
def befF (a : Ar) (r x : Int) : Ar × Int :=
  if a.there r = false ∨ a.there x = false then (a, 22)
  else match a.up r.toNat with
  | none => (a, 23)
  | some p =>
    if fix (a.lb r.toNat) = true ∨ fix (a.lb x.toNat) = true then (a, 23)
    else if a.up x.toNat ≠ none then (a, 24)
    else if a.wn r.toNat x.toNat = true then (a, 26)
    else (a.put p (a.place p r.toNat) x.toNat, 0)

theorem Ful.up_hld {a : Ar} (h : a.Ful) {p x : Nat} (hu : a.up x = some p) : hld (a.lb p) = true :=
  h.may p (List.ne_nil_of_mem ((h.link p x).2 hu))

theorem Ful.befF {a : Ar} (h : a.Ful) (r x : Int) : (a.befF r x).1.Ful := by
  unfold Ar.befF
  split
  · exact h
  rename_i h1
  split
  · exact h
  rename_i p hu
  split
  · exact h
  rename_i h2
  split
  · exact h
  rename_i h3
  split
  · exact h
  rename_i h4
  simp only [not_or, Bool.not_eq_false, Bool.not_eq_true] at h1 h2 h4
  have hr := (there_lt h1.1).1
  have hw := wn_false h.toOk hr h4
  exact h.put (h.lt hu).2 (there_lt h1.2).1 (h.up_hld hu) h2.2 (by simpa using h3) (fun hp => hw (Wn.step hu hp)) (fun ht => h.place_pos hu h2.1 ht)

/-- Detach. -/
def detF (a : Ar) (x : Int) : Ar × Int :=
  if a.there x = false then (a, 22) else if fix (a.lb x.toNat) = true then (a, 23) else (a.cut x.toNat, 0)

theorem Ful.detF {a : Ar} (h : a.Ful) (x : Int) : (a.detF x).1.Ful := by
  unfold Ar.detF
  split
  · exact h
  split
  · exact h
  · rename_i h2; exact h.cut (by simpa using h2)

/-- A node to the end of another's kids. -/
def shift (a : Ar) (t x : Nat) : Ar := (a.cut x).put t ((a.cut x).kids t).length x

theorem shift_up {a : Ar} {t x y : Nat} (hy : y ≠ x) : (a.shift t x).up y = a.up y := by
  show (if y = x then _ else if y = x then _ else _) = _
  rw [if_neg hy, if_neg hy]

theorem shift_wn {a : Ar} {f t x y : Nat} (hu : a.up x = some f) (hw : ¬ a.Wn t f) (hy : a.Wn t y) (h : (a.shift t x).Wn y f) : a.Wn y f := by
  obtain ⟨k, e⟩ := h
  induction k generalizing y with
  | zero => exact ⟨0, e⟩
  | succ k ih =>
    have hyx : y ≠ x := fun e => hw ((e ▸ hy).trans (Wn.step hu (Wn.refl a f)))
    cases hq : a.up y with
    | none => simp [anc, shift_up hyx, hq] at e
    | some q => exact Wn.step hq (ih (hy.trans (Wn.step hq (Wn.refl a q))) (by simpa [anc, shift_up hyx, hq] using e))

theorem Ful.shift {a : Ar} (h : a.Ful) {f t x : Nat} (hu : a.up x = some f) (hf : fix (a.lb x) = false) (ht : t < a.n) (hh : hld (a.lb t) = true) (hw : ¬ a.Wn t f) : (a.shift t x).Ful :=
  (h.cut hf).put ht (h.lt hu).1 hh hf (by show (if x = x then _ else _) = none; rw [if_pos rfl]) (fun hw2 => hw ((cut_wn hw2).trans (Wn.step hu (Wn.refl a f)))) (fun htm => (h.cut hf).tmpl_pos ht htm)

/-- The kids of one, but a Content, to another. -/
def movs (a : Ar) (t : Nat) : List Nat → Ar
  | [] => a
  | x :: xs => if (a.lb x).kind = 6 then a.movs t xs else (a.shift t x).movs t xs

theorem Ful.movs {f t : Nat} : ∀ (xs : List Nat) (a : Ar), a.Ful → xs.Nodup → (∀ x ∈ xs, a.up x = some f) → t < a.n → hld (a.lb t) = true → ¬ a.Wn t f → (a.movs t xs).Ful ∧ (a.movs t xs).n = a.n ∧ (a.movs t xs).lb = a.lb
  | [], a, h, _, _, _, _, _ => ⟨h, rfl, rfl⟩
  | x :: xs, a, h, hn, hx, ht, hh, hw => by
    have hn' := List.nodup_cons.1 hn
    have hu := hx x (List.mem_cons_self ..)
    unfold Ar.movs
    split
    · exact Ful.movs xs a h hn'.2 (fun y hy => hx y (List.mem_cons_of_mem _ hy)) ht hh hw
    · rename_i h6
      have h1 : (a.lb x).kind ≠ 1 := fun e => by
        have := (h.doc x (h.lt hu).1).1 e
        rw [this, h.top] at hu; cases hu
      have hf : fix (a.lb x) = false := by simp [fix, h1, h6]
      exact Ful.movs xs (a.shift t x) (h.shift hu hf ht hh hw) hn'.2 (fun y hy => by
        have hyx : y ≠ x := fun e => hn'.1 (e ▸ hy)
        rw [shift_up hyx]; exact hx y (List.mem_cons_of_mem _ hy)) ht hh (fun hw2 => hw (shift_wn hu hw (Wn.refl a t) hw2))

/-- Move. -/
def movF (a : Ar) (f t : Int) : Ar × Int :=
  if a.there f = false ∨ a.there t = false then (a, 22)
  else if hld (a.lb f.toNat) = false ∨ hld (a.lb t.toNat) = false then (a, 23)
  else if a.wn t.toNat f.toNat = true then (a, 26)
  else (a.movs t.toNat (a.kids f.toNat), 0)

theorem Ful.movF {a : Ar} (h : a.Ful) (f t : Int) : (a.movF f t).1.Ful := by
  unfold Ar.movF
  split
  · exact h
  rename_i h1
  split
  · exact h
  rename_i h2
  split
  · exact h
  rename_i h4
  simp only [not_or, Bool.not_eq_false, Bool.not_eq_true] at h1 h2 h4
  have ht := (there_lt h1.2).1
  exact (Ful.movs (f := f.toNat) _ a h (h.one _) (fun x hx => (h.link _ x).1 hx) ht h2.2 (wn_false h.toOk ht h4)).1

/-- A text at a place among the kids of p. -/
def txt (a : Ar) (p i : Nat) (s : ByteArray) : Ar :=
  if s.size = 0 ∨ (a.lb p).kind = 1 then a
  else match (if i = 0 then none else (a.kids p)[i - 1]?) with
  | some k => if (a.lb k).kind = 4 then a.tell k (4, (a.lb k).ns, (a.lb k).name, (a.lb k).attrs, (a.lb k).text ++ s) else (a.new (4, 0, ⟨#[]⟩, [], s)).put p i a.n
  | none => (a.new (4, 0, ⟨#[]⟩, [], s)).put p i a.n

theorem Ful.txt_new {a : Ar} (h : a.Ful) {p i : Nat} (s : ByteArray) (hp : p < a.n) (hh : hld (a.lb p) = true) (hi : tmplF (a.lb p) = true → i ≠ 0) : ((a.new (4, 0, ⟨#[]⟩, [], s)).put p i a.n).Ful := by
  have hl : (a.new (4, 0, ⟨#[]⟩, [], s)).lb p = a.lb p := by show (if p = a.n then _ else _) = _; rw [if_neg (by omega)]
  have hl2 : (a.new (4, 0, ⟨#[]⟩, [], s)).lb a.n = (4, 0, ⟨#[]⟩, [], s) := by show (if a.n = a.n then _ else _) = _; rw [if_pos rfl]
  have hw : ∀ k y, a.anc k y = (a.new (4, 0, ⟨#[]⟩, [], s)).anc k y := fun k => by
    induction k with
    | zero => exact fun _ => rfl
    | succ k ih =>
      intro y
      show (a.up y).bind (a.anc k) = (a.up y).bind ((a.new (4, 0, ⟨#[]⟩, [], s)).anc k)
      cases a.up y with
      | none => rfl
      | some q => exact ih q
  refine (h.new (l := (4, 0, ⟨#[]⟩, [], s)) (by simp [fix, Lb.kind]) (by simp [tmplF, Lb.kind])).put (show p < a.n + 1 by omega) (show a.n < a.n + 1 by omega) (by rw [hl]; exact hh) (by rw [hl2]; simp [fix, Lb.kind]) (h.out a.n (Nat.le_refl _)).2 ?_ (by rw [hl]; exact hi)
  rintro ⟨k, e⟩
  rw [← hw] at e
  have : ∀ k y z, y < a.n → a.anc k y = some z → z < a.n := fun k => by
    induction k with
    | zero => intro y z hy e; obtain rfl : y = z := by simpa [anc] using e
              exact hy
    | succ k ih =>
      intro y z hy e
      cases hu : a.up y with
      | none => simp [anc, hu] at e
      | some q => exact ih q z (h.lt hu).2 (by simpa [anc, hu] using e)
  exact absurd (this k p a.n hp e) (Nat.lt_irrefl _)

theorem Ful.txt {a : Ar} (h : a.Ful) {p i : Nat} (s : ByteArray) (hp : p < a.n) (hh : hld (a.lb p) = true) (hi : tmplF (a.lb p) = true → i ≠ 0) : (a.txt p i s).Ful := by
  unfold Ar.txt
  split
  · exact h
  split
  · split
    · rename_i k _ hk
      exact h.tell (by simp [Lb.kind, hk]) (by simp [tmplF, Lb.kind, hk])
    · exact h.txt_new s hp hh hi
  · exact h.txt_new s hp hh hi

/-- Write. -/
def wrF (a : Ar) (p : Int) (s : ByteArray) : Ar × Int :=
  if a.there p = false then (a, 22) else if hld (a.lb p.toNat) = false then (a, 23) else (a.txt p.toNat (a.kids p.toNat).length s, 0)

theorem Ful.wrF {a : Ar} (h : a.Ful) (p : Int) (s : ByteArray) : (a.wrF p s).1.Ful := by
  unfold Ar.wrF
  split
  · exact h
  split
  · exact h
  rename_i h1 h2
  have hp := (there_lt (by simpa using h1)).1
  exact h.txt s hp (by simpa using h2) (fun ht => h.tmpl_pos hp ht)

/-- WriteBefore. -/
def wbF (a : Ar) (r : Int) (s : ByteArray) : Ar × Int :=
  if a.there r = false then (a, 22)
  else match a.up r.toNat with
  | none => (a, 23)
  | some p => if fix (a.lb r.toNat) = true then (a, 23) else (a.txt p (a.place p r.toNat) s, 0)

theorem Ful.wbF {a : Ar} (h : a.Ful) (r : Int) (s : ByteArray) : (a.wbF r s).1.Ful := by
  unfold Ar.wbF
  split
  · exact h
  split
  · exact h
  rename_i p hu
  split
  · exact h
  rename_i h2
  exact h.txt s (h.lt hu).2 (h.up_hld hu) (fun ht => h.place_pos hu (by simpa using h2) ht)

/-- More (g: what becomes of its attributes). -/
def morF (a : Ar) (x : Int) (g : List Att → List Att) : Ar × Int :=
  if a.there x = false then (a, 22)
  else if (a.lb x.toNat).kind ≠ 3 then (a, 23)
  else (a.tell x.toNat (3, (a.lb x.toNat).ns, (a.lb x.toNat).name, g (a.lb x.toNat).attrs, (a.lb x.toNat).text), 0)

theorem Ful.morF {a : Ar} (h : a.Ful) (x : Int) (g : List Att → List Att) : (a.morF x g).1.Ful := by
  unfold Ar.morF
  split
  · exact h
  split
  · exact h
  rename_i h2
  have h3 : (a.lb x.toNat).kind = 3 := by simpa using h2
  exact h.tell (by simp [Lb.kind] at h3 ⊢; exact h3.symm) (by simp [tmplF, Lb.kind, Lb.ns, Lb.name] at h3 ⊢; simp [h3])

end Ar
end Go.Proofs.YtpkppobkagdhkaaGreat

/-
  More and Unique of the document.
-/
namespace Go.Proofs.YtpkppobkagdhkaaGreat
open Go.RowKit
set_option linter.unusedVariables false

set_option maxHeartbeats 1000000 in
theorem ref_more_any (w : World) (l m : List Att) (ao bo : Option Addr) (n c p d : Nat) (hr : Rp w ao n c l) (hs : Rp w bo p d m) (hl : n ≤ 10000) (hm : p ≤ 10000) :
    Calls Tryz.prog 99 #[.slice ao n c, .slice bo p d] w fun e w' => ∃ ao' n' c', e = .returned (.slice ao' n' c') ∧ Mp w w' ao' n' c' (more l m) := by
  have M1 := mp_none w
  obtain ⟨a2, n2, c2, w2, hrun, M2⟩ := M1.app ((hr.kept M1.kp).src Tryz.underlying22) (fun h => by cases h) (by omega)
  rw [List.nil_append] at M2
  have hln : l.length ≤ 10000 := by have := hr.len; omega
  obtain rfl := hs.len
  clear M1 hr
  go_enter Tryz.func99, Tryz.ntmps99
  go_wp2_with (at_builtin; refine Lib.wpList_append_run _ rfl _ _ _ _ rfl _ _ rfl rfl _ _ (hrun _) ?_)
  clear hrun
  go_loopw [5, 6] (fun v i wr => ∃ (k : Nat) (ao' : Option Addr) (n' c' : Nat), k ≤ m.length ∧ i = .int .i64 k ∧ v = .slice ao' n' c' ∧ Mp w wr ao' n' c' (more l (m.take k))) (fun _ i _ => m.length - (intOf i).toNat)
  case atStart => exact ⟨0, _, _, _, Nat.zero_le _, rfl, rfl, M2⟩
  case round =>
    obtain ⟨k, ao', n', c', hk, rfl, rfl, M⟩ := hrel
    clear M2
    by_cases hlt : k < m.length
    · obtain ⟨b1, o1, rfl, h1, h2⟩ := (hs.kept M.kp).get k hlt
      have hts := take_snoc hlt
      have hn : n' ≤ 30000 := by
        have e1 := M.len
        have e2 := more_len (m.take k) l
        simp at e2
        omega
      generalize m[k] = a at h1 h2 hts
      have HA := ref_add_any wr _ a ao' n' c' M.rp hn
      unfold av at HA
      clear hs
      go_wp2_with (go_at_call 120; refine HA.mono ?_; rintro e w3 ⟨a3, n3, c3, rfl, M3⟩)
      have M4 := M3.back M.kp
      rw [← more_snoc, ← hts] at M4
      clear M M3 hts h1 h2 HA
      go_roundw
      case rel => exact ⟨k + 1, _, _, _, by omega, by go_num, rfl, M4⟩
      case measure => simp [intOf]; omega
    · obtain rfl : k = m.length := by omega
      rw [List.take_length] at M
      go_wp2
      go_ret
      exact ⟨_, _, _, rfl, M⟩

set_option maxHeartbeats 1000000 in
theorem ref_uniq_any (w : World) (m : List Att) (bo : Option Addr) (p d : Nat) (hs : Rp w bo p d m) (hm : p ≤ 10000) :
    Calls Tryz.prog 91 #[.slice bo p d] w fun e w' => ∃ ao' n' c', e = .returned (.slice ao' n' c') ∧ Mp w w' ao' n' c' (uniq m) := by
  have H := ref_more_any w [] m none bo 0 0 p d (rp_nil w) hs (by omega) hm
  go_enter Tryz.func91, Tryz.ntmps91
  go_wp2_with (go_at_call 99; refine H.mono ?_; rintro e w3 ⟨a3, n3, c3, rfl, M3⟩)
  go_ret
  exact ⟨_, _, _, rfl, M3⟩

end Go.Proofs.YtpkppobkagdhkaaGreat

/-
  The document's zero.
-/
namespace Go.Proofs.YtpkppobkagdhkaaGreat
open Go.RowKit
set_option linter.unusedVariables false
set_option linter.unusedSimpArgs false

/-- Numbers, as values. -/
def iz (l : List Int) : List Value := l.map (Value.int .i64)
theorem iz_len (l : List Int) : (iz l).length = l.length := by simp [iz]

theorem Rb.iz_at {w : World} {ao : Option Addr} {n c : Nat} {l : List Int} (h : Rb w ao n c (iz l)) (k : Nat) (hk : k < l.length) : ∃ b off, ao = some ⟨b, off, none⟩ ∧ w.cell? ⟨b, off + k, none⟩ = some (.int .i64 l[k]) := by
  have hl := h.len
  rw [iz_len] at hl
  obtain ⟨b, off, h1, h2⟩ := h.at' k (by omega)
  exact ⟨b, off, h1, by rw [h2]; simp [iz, hk]⟩

theorem zr_not {l : List Int} {x y : ByteArray} {q : List Att} {k : Nat} (hk : k < l.length) (h : l[k] ≠ 0) : zr l x y q = false := by
  have : l.all (fun n => n == 0) = false := by
    rw [List.all_eq_false]
    exact ⟨l[k], List.getElem_mem hk, by simpa using h⟩
  simp [zr, this]

theorem zr_all {l : List Int} {x y : ByteArray} {q : List Att} (h : ∀ j (hj : j < l.length), l[j] = 0) : zr l x y q = (eqs x e0 && (eqs y e0 && q.isEmpty)) := by
  have : l.all (fun n => n == 0) = true := by
    rw [List.all_eq_true]
    intro a ha
    obtain ⟨j, hj, rfl⟩ := List.mem_iff_getElem.1 ha
    simpa using h j hj
  simp [zr, this]

theorem eqs_e0 (x : ByteArray) : x.toList.isEmpty = eqs x e0 := by
  have e : e0.toList = [] := by rw [e0, ByteArray.toList_eq]
  unfold eqs
  rw [e]
  cases x.toList <;> rfl

set_option maxRecDepth 100000 in
set_option maxHeartbeats 1000000 in
theorem zero_any (w : World) (x y : ByteArray) (q : List Att) (l : List Int) (ao bo : Option Addr) (n c m d : Nat) (hq : n = q.length) (hl : Rb w bo m d (iz l)) (hn : n ≤ 100000) (hm : m ≤ 1000) :
    Calls Tryz.prog 90 #[.string x, .string y, .slice ao n c, .slice bo m d] w fun e w' => e = .returned (.bool (zr l x y q)) ∧ w' = w := by
  obtain ⟨A, hA0⟩ : ∃ A, zr l x y q = A := ⟨_, rfl⟩
  rw [hA0]
  have hA : Hid (zr l x y q = A) := hA0
  clear hA0
  have hml : m = l.length := by rw [hl.len, iz_len]
  subst hml
  have hq2 : ((n : Int) == 0) = q.isEmpty := by
    rw [hq]
    cases q with
    | nil => rfl
    | cons a q => simp; omega
  clear hq
  go_enter Tryz.func90, Tryz.ntmps90
  go_wp2
  go_loopw [9] (fun i wr => ∃ k : Nat, k ≤ l.length ∧ i = .int .i64 k ∧ wr = w ∧ ∀ j (hj : j < l.length), j < k → l[j] = 0) (fun i _ => l.length - (intOf i).toNat)
  case atStart => exact ⟨0, Nat.zero_le _, rfl, rfl, fun j _ hj => by omega⟩
  case round =>
    obtain ⟨k, hk, rfl, rfl, hp⟩ := hrel
    by_cases hlt : k < l.length
    · obtain ⟨b, off, rfl, hc⟩ := hl.iz_at k hlt
      by_cases hz : l[k] = 0
      · have hp2 : Hid (∀ j (hj : j < l.length), j < k + 1 → l[j] = 0) := fun j hj hjk => by
          by_cases e : j = k
          · subst e; exact hz
          · exact hp j hj (by omega)
        rw [hz] at hc
        clear hp hz hl
        go_wp2
        go_roundw
        case rel => exact ⟨k + 1, by omega, by go_num, by trivial, hp2.out⟩
        case measure => simp [intOf]; omega
      · have hz2 : (l[k] != 0) = true := by simpa using hz
        have hA2 := hA.out
        rw [zr_not hlt hz] at hA2
        subst hA2
        clear hA hp hl
        generalize l[k] = z at hc hz hz2
        go_wp2
        go_ret
        exact ⟨rfl, rfl⟩
    · obtain rfl : k = l.length := by omega
      have hA2 := hA.out
      rw [zr_all (fun j hj => hp j hj hj)] at hA2
      clear hA hp hl hk
      have e1 := eqs_e0 x
      have e2 := eqs_e0 y
      cases c1 : eqs x e0
      · rw [c1] at hA2 e1
        simp only [Bool.false_and] at hA2
        subst hA2
        go_wp2
        go_ret
        exact ⟨rfl, rfl⟩
      · rw [c1] at hA2 e1
        cases c2 : eqs y e0
        · rw [c2] at hA2 e2
          simp only [Bool.false_and, Bool.true_and] at hA2
          subst hA2
          go_wp2
          go_ret
          exact ⟨rfl, rfl⟩
        · rw [c2] at hA2 e2
          simp only [Bool.true_and] at hA2
          subst hA2
          go_wp2
          go_ret
          exact ⟨by first | rfl | rw [hq2], rfl⟩

end Go.Proofs.YtpkppobkagdhkaaGreat
