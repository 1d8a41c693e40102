/-
  Joined: LotsC.
-/
import Derived.Test.YtpkppobkagdhkaaJ13

/-
  Arenas by themselves: the calls, one by one: no program.
-/
namespace Go.Proofs.Ytpkppobkagdhkaa
set_option linter.unusedVariables false
set_option linter.unusedSimpArgs false

namespace Ar

/-- Is x the node t, or below it (told by going up)? -/
def wn (a : Ar) (x t : Nat) : Bool := (List.range a.n).any fun k => a.anc k x == some t

theorem wn_iff {a : Ar} (h : a.Ok) {x t : Nat} (hx : x < a.n) : a.wn x t = true ↔ a.Wn x t := by
  unfold wn
  rw [List.any_eq_true]
  constructor
  · rintro ⟨k, _, e⟩
    exact ⟨k, by simpa using e⟩
  · rintro ⟨k, e⟩
    exact ⟨k, List.mem_range.2 (h.anc_lt hx e), by simpa using e⟩

theorem wn_false {a : Ar} (h : a.Ok) {x t : Nat} (hx : x < a.n) (e : a.wn x t = false) : ¬ a.Wn x t := fun hw => by
  rw [(wn_iff h hx).2 hw] at e; cases e

/-- Is there such a node? -/
def there (a : Ar) (z : Int) : Bool := decide (0 ≤ z ∧ z < a.n)
theorem there_lt {a : Ar} {z : Int} (h : a.there z = true) : z.toNat < a.n ∧ (z.toNat : Int) = z := by
  simp only [there, decide_eq_true_eq] at h; omega

/-- Make (u: its attributes, each name once). -/
def mkF (a : Ar) (kind ns : Int) (name : ByteArray) (u : List Att) (text : ByteArray) : Ar × Int × Int :=
  if kind < 2 ∨ 5 < kind then (a, 0, 23)
  else if kind = 3 then
    if (ns ≠ 1 ∧ ns ≠ 2) ∨ name.size = 0 then (a, 0, 12)
    else if tmplF (3, ns, name, u, ⟨#[]⟩) then (a.newT (3, ns, name, u, ⟨#[]⟩), a.n, 0)
    else (a.new (3, ns, name, u, ⟨#[]⟩), a.n, 0)
  else if kind = 2 then (a.new (2, 0, name, [], ⟨#[]⟩), a.n, 0)
  else (a.new (kind, 0, ⟨#[]⟩, [], text), a.n, 0)

theorem Ful.mkF {a : Ar} (h : a.Ful) (kind ns : Int) (name : ByteArray) (u : List Att) (text : ByteArray) : (a.mkF kind ns name u text).1.Ful := by
  unfold Ar.mkF
  split
  · exact h
  rename_i h1
  split
  · split
    · exact h
    split
    · rename_i ht; exact h.newT ht
    · rename_i ht; exact h.new (by simp [fix, Lb.kind]) (by simpa using ht)
  rename_i h3
  split
  · exact h.new (by simp [fix, Lb.kind]) (by simp [tmplF, Lb.kind])
  · exact h.new (by simp [fix, Lb.kind]; omega) (by simp [tmplF, Lb.kind]; omega)

/-- Append. -/
def appF (a : Ar) (p x : Int) : Ar × Int :=
  if a.there p = false ∨ a.there x = false then (a, 22)
  else if hld (a.lb p.toNat) = false ∨ fix (a.lb x.toNat) = true then (a, 23)
  else if a.up x.toNat ≠ none then (a, 24)
  else if a.wn p.toNat x.toNat = true then (a, 26)
  else (a.put p.toNat (a.kids p.toNat).length x.toNat, 0)

theorem Ful.tmpl_pos {a : Ar} (h : a.Ful) {p : Nat} (hp : p < a.n) (ht : tmplF (a.lb p) = true) : (a.kids p).length ≠ 0 := fun e => by
  obtain ⟨c, h1, _⟩ := h.has p hp ht
  rw [List.length_eq_zero_iff.1 e] at h1; cases h1

theorem Ful.appF {a : Ar} (h : a.Ful) (p x : Int) : (a.appF p x).1.Ful := by
  unfold Ar.appF
  split
  · exact h
  rename_i h1
  split
  · exact h
  rename_i h2
  split
  · exact h
  rename_i h3
  split
  · exact h
  rename_i h4
  simp only [not_or, Bool.not_eq_false, Bool.not_eq_true] at h1 h2 h4
  have hp := (there_lt h1.1).1
  exact h.put hp (there_lt h1.2).1 h2.1 h2.2 (by simpa using h3) (wn_false h.toOk hp h4) (fun ht => h.tmpl_pos hp ht)

/-- Where a node stands among its parent's kids. -/
def place (a : Ar) (p x : Nat) : Nat := (a.kids p).idxOf x

theorem Ful.place_pos {a : Ar} (h : a.Ful) {p x : Nat} (hu : a.up x = some p) (hf : fix (a.lb x) = false) (ht : tmplF (a.lb p) = true) : a.place p x ≠ 0 := fun e => by
  obtain ⟨c, h1, h2⟩ := h.has p (h.lt hu).2 ht
  have hm := (h.link p x).2 hu
  have hd := fix_doc hf
  unfold place at e
  cases hk : a.kids p with
  | nil => rw [hk] at hm; cases hm
  | cons y ys =>
    rw [hk] at h1 e
    obtain rfl : y = c := by simpa using h1
    rw [List.idxOf_cons] at e
    by_cases hy : y = x
    · rw [hy] at h2; exact hd.2 h2
    · have hb : (y == x) = false := by simpa using hy
      rw [hb] at e
      exact absurd e (by simp)

/-- Before. -/
def befF (a : Ar) (r x : Int) : Ar × Int :=
  if a.there r = false ∨ a.there x = false then (a, 22)
  else match a.up r.toNat with
  | none => (a, 23)
  | some p =>
    if fix (a.lb r.toNat) = true ∨ fix (a.lb x.toNat) = true then (a, 23)
    else if a.up x.toNat ≠ none then (a, 24)
    else if a.wn r.toNat x.toNat = true then (a, 26)
    else (a.put p (a.place p r.toNat) x.toNat, 0)

theorem Ful.up_hld {a : Ar} (h : a.Ful) {p x : Nat} (hu : a.up x = some p) : hld (a.lb p) = true :=
  h.may p (List.ne_nil_of_mem ((h.link p x).2 hu))

theorem Ful.befF {a : Ar} (h : a.Ful) (r x : Int) : (a.befF r x).1.Ful := by
  unfold Ar.befF
  split
  · exact h
  rename_i h1
  split
  · exact h
  rename_i p hu
  split
  · exact h
  rename_i h2
  split
  · exact h
  rename_i h3
  split
  · exact h
  rename_i h4
  simp only [not_or, Bool.not_eq_false, Bool.not_eq_true] at h1 h2 h4
  have hr := (there_lt h1.1).1
  have hw := wn_false h.toOk hr h4
  exact h.put (h.lt hu).2 (there_lt h1.2).1 (h.up_hld hu) h2.2 (by simpa using h3) (fun hp => hw (Wn.step hu hp)) (fun ht => h.place_pos hu h2.1 ht)

/-- Detach. -/
def detF (a : Ar) (x : Int) : Ar × Int :=
  if a.there x = false then (a, 22) else if fix (a.lb x.toNat) = true then (a, 23) else (a.cut x.toNat, 0)

theorem Ful.detF {a : Ar} (h : a.Ful) (x : Int) : (a.detF x).1.Ful := by
  unfold Ar.detF
  split
  · exact h
  split
  · exact h
  · rename_i h2; exact h.cut (by simpa using h2)

/-- A node to the end of another's kids. -/
def shift (a : Ar) (t x : Nat) : Ar := (a.cut x).put t ((a.cut x).kids t).length x

theorem shift_up {a : Ar} {t x y : Nat} (hy : y ≠ x) : (a.shift t x).up y = a.up y := by
  show (if y = x then _ else if y = x then _ else _) = _
  rw [if_neg hy, if_neg hy]

theorem shift_wn {a : Ar} {f t x y : Nat} (hu : a.up x = some f) (hw : ¬ a.Wn t f) (hy : a.Wn t y) (h : (a.shift t x).Wn y f) : a.Wn y f := by
  obtain ⟨k, e⟩ := h
  induction k generalizing y with
  | zero => exact ⟨0, e⟩
  | succ k ih =>
    have hyx : y ≠ x := fun e => hw ((e ▸ hy).trans (Wn.step hu (Wn.refl a f)))
    cases hq : a.up y with
    | none => simp [anc, shift_up hyx, hq] at e
    | some q => exact Wn.step hq (ih (hy.trans (Wn.step hq (Wn.refl a q))) (by simpa [anc, shift_up hyx, hq] using e))

theorem Ful.shift {a : Ar} (h : a.Ful) {f t x : Nat} (hu : a.up x = some f) (hf : fix (a.lb x) = false) (ht : t < a.n) (hh : hld (a.lb t) = true) (hw : ¬ a.Wn t f) : (a.shift t x).Ful :=
  (h.cut hf).put ht (h.lt hu).1 hh hf (by show (if x = x then _ else _) = none; rw [if_pos rfl]) (fun hw2 => hw ((cut_wn hw2).trans (Wn.step hu (Wn.refl a f)))) (fun htm => (h.cut hf).tmpl_pos ht htm)

/-- The kids of one, but a Content, to another. -/
def movs (a : Ar) (t : Nat) : List Nat → Ar
  | [] => a
  | x :: xs => if (a.lb x).kind = 6 then a.movs t xs else (a.shift t x).movs t xs

theorem Ful.movs {f t : Nat} : ∀ (xs : List Nat) (a : Ar), a.Ful → xs.Nodup → (∀ x ∈ xs, a.up x = some f) → t < a.n → hld (a.lb t) = true → ¬ a.Wn t f → (a.movs t xs).Ful ∧ (a.movs t xs).n = a.n ∧ (a.movs t xs).lb = a.lb
  | [], a, h, _, _, _, _, _ => ⟨h, rfl, rfl⟩
  | x :: xs, a, h, hn, hx, ht, hh, hw => by
    have hn' := List.nodup_cons.1 hn
    have hu := hx x (List.mem_cons_self ..)
    unfold Ar.movs
    split
    · exact Ful.movs xs a h hn'.2 (fun y hy => hx y (List.mem_cons_of_mem _ hy)) ht hh hw
    · rename_i h6
      have h1 : (a.lb x).kind ≠ 1 := fun e => by
        have := (h.doc x (h.lt hu).1).1 e
        rw [this, h.top] at hu; cases hu
      have hf : fix (a.lb x) = false := by simp [fix, h1, h6]
      exact Ful.movs xs (a.shift t x) (h.shift hu hf ht hh hw) hn'.2 (fun y hy => by
        have hyx : y ≠ x := fun e => hn'.1 (e ▸ hy)
        rw [shift_up hyx]; exact hx y (List.mem_cons_of_mem _ hy)) ht hh (fun hw2 => hw (shift_wn hu hw (Wn.refl a t) hw2))

/-- Move. -/
def movF (a : Ar) (f t : Int) : Ar × Int :=
  if a.there f = false ∨ a.there t = false then (a, 22)
  else if hld (a.lb f.toNat) = false ∨ hld (a.lb t.toNat) = false then (a, 23)
  else if a.wn t.toNat f.toNat = true then (a, 26)
  else (a.movs t.toNat (a.kids f.toNat), 0)

theorem Ful.movF {a : Ar} (h : a.Ful) (f t : Int) : (a.movF f t).1.Ful := by
  unfold Ar.movF
  split
  · exact h
  rename_i h1
  split
  · exact h
  rename_i h2
  split
  · exact h
  rename_i h4
  simp only [not_or, Bool.not_eq_false, Bool.not_eq_true] at h1 h2 h4
  have ht := (there_lt h1.2).1
  exact (Ful.movs (f := f.toNat) _ a h (h.one _) (fun x hx => (h.link _ x).1 hx) ht h2.2 (wn_false h.toOk ht h4)).1

/-- A text at a place among the kids of p. -/
def txt (a : Ar) (p i : Nat) (s : ByteArray) : Ar :=
  if s.size = 0 ∨ (a.lb p).kind = 1 then a
  else match (if i = 0 then none else (a.kids p)[i - 1]?) with
  | some k => if (a.lb k).kind = 4 then a.tell k (4, (a.lb k).ns, (a.lb k).name, (a.lb k).attrs, (a.lb k).text ++ s) else (a.new (4, 0, ⟨#[]⟩, [], s)).put p i a.n
  | none => (a.new (4, 0, ⟨#[]⟩, [], s)).put p i a.n

theorem Ful.txt_new {a : Ar} (h : a.Ful) {p i : Nat} (s : ByteArray) (hp : p < a.n) (hh : hld (a.lb p) = true) (hi : tmplF (a.lb p) = true → i ≠ 0) : ((a.new (4, 0, ⟨#[]⟩, [], s)).put p i a.n).Ful := by
  have hl : (a.new (4, 0, ⟨#[]⟩, [], s)).lb p = a.lb p := by show (if p = a.n then _ else _) = _; rw [if_neg (by omega)]
  have hl2 : (a.new (4, 0, ⟨#[]⟩, [], s)).lb a.n = (4, 0, ⟨#[]⟩, [], s) := by show (if a.n = a.n then _ else _) = _; rw [if_pos rfl]
  have hw : ∀ k y, a.anc k y = (a.new (4, 0, ⟨#[]⟩, [], s)).anc k y := fun k => by
    induction k with
    | zero => exact fun _ => rfl
    | succ k ih =>
      intro y
      show (a.up y).bind (a.anc k) = (a.up y).bind ((a.new (4, 0, ⟨#[]⟩, [], s)).anc k)
      cases a.up y with
      | none => rfl
      | some q => exact ih q
  refine (h.new (l := (4, 0, ⟨#[]⟩, [], s)) (by simp [fix, Lb.kind]) (by simp [tmplF, Lb.kind])).put (show p < a.n + 1 by omega) (show a.n < a.n + 1 by omega) (by rw [hl]; exact hh) (by rw [hl2]; simp [fix, Lb.kind]) (h.out a.n (Nat.le_refl _)).2 ?_ (by rw [hl]; exact hi)
  rintro ⟨k, e⟩
  rw [← hw] at e
  have : ∀ k y z, y < a.n → a.anc k y = some z → z < a.n := fun k => by
    induction k with
    | zero => intro y z hy e; obtain rfl : y = z := by simpa [anc] using e
              exact hy
    | succ k ih =>
      intro y z hy e
      cases hu : a.up y with
      | none => simp [anc, hu] at e
      | some q => exact ih q z (h.lt hu).2 (by simpa [anc, hu] using e)
  exact absurd (this k p a.n hp e) (Nat.lt_irrefl _)

theorem Ful.txt {a : Ar} (h : a.Ful) {p i : Nat} (s : ByteArray) (hp : p < a.n) (hh : hld (a.lb p) = true) (hi : tmplF (a.lb p) = true → i ≠ 0) : (a.txt p i s).Ful := by
  unfold Ar.txt
  split
  · exact h
  split
  · split
    · rename_i k _ hk
      exact h.tell (by simp [Lb.kind, hk]) (by simp [tmplF, Lb.kind, hk])
    · exact h.txt_new s hp hh hi
  · exact h.txt_new s hp hh hi

/-- Write. -/
def wrF (a : Ar) (p : Int) (s : ByteArray) : Ar × Int :=
  if a.there p = false then (a, 22) else if hld (a.lb p.toNat) = false then (a, 23) else (a.txt p.toNat (a.kids p.toNat).length s, 0)

theorem Ful.wrF {a : Ar} (h : a.Ful) (p : Int) (s : ByteArray) : (a.wrF p s).1.Ful := by
  unfold Ar.wrF
  split
  · exact h
  split
  · exact h
  rename_i h1 h2
  have hp := (there_lt (by simpa using h1)).1
  exact h.txt s hp (by simpa using h2) (fun ht => h.tmpl_pos hp ht)

/-- WriteBefore. -/
def wbF (a : Ar) (r : Int) (s : ByteArray) : Ar × Int :=
  if a.there r = false then (a, 22)
  else match a.up r.toNat with
  | none => (a, 23)
  | some p => if fix (a.lb r.toNat) = true then (a, 23) else (a.txt p (a.place p r.toNat) s, 0)

theorem Ful.wbF {a : Ar} (h : a.Ful) (r : Int) (s : ByteArray) : (a.wbF r s).1.Ful := by
  unfold Ar.wbF
  split
  · exact h
  split
  · exact h
  rename_i p hu
  split
  · exact h
  rename_i h2
  exact h.txt s (h.lt hu).2 (h.up_hld hu) (fun ht => h.place_pos hu (by simpa using h2) ht)

/-- More (g: what becomes of its attributes). -/
def morF (a : Ar) (x : Int) (g : List Att → List Att) : Ar × Int :=
  if a.there x = false then (a, 22)
  else if (a.lb x.toNat).kind ≠ 3 then (a, 23)
  else (a.tell x.toNat (3, (a.lb x.toNat).ns, (a.lb x.toNat).name, g (a.lb x.toNat).attrs, (a.lb x.toNat).text), 0)

theorem Ful.morF {a : Ar} (h : a.Ful) (x : Int) (g : List Att → List Att) : (a.morF x g).1.Ful := by
  unfold Ar.morF
  split
  · exact h
  split
  · exact h
  rename_i h2
  have h3 : (a.lb x.toNat).kind = 3 := by simpa using h2
  exact h.tell (by simp [Lb.kind] at h3 ⊢; exact h3.symm) (by simp [tmplF, Lb.kind, Lb.ns, Lb.name] at h3 ⊢; simp [h3])

end Ar
end Go.Proofs.Ytpkppobkagdhkaa
