/-
  Joined: Woods Cop.
-/
import Derived.Test.YtpkppobkagdhkaaGreatJ6
import Derived.Test.YtpkppobkagdhkaaGreatRows
import Derived.Test.YtpkppobkagdhkaaGreatJ4
import Derived.WalkLawsBesides
import Derived.Deep.RegionHeld3

/-
  Trees as they lie in memory: a row of nodes is a slice of six cells each (Kind, NS, Name, Attrs, Text, Kids).
-/
namespace Go.Proofs.YtpkppobkagdhkaaGreat
open Go.RowKit
set_option linter.unusedVariables false

/-- Any block. -/
abbrev Any : Nat → Prop := fun _ => True

/-- The slice of n things of K cells each, from ao on, with room for c, reads as these cells; it lies in a block that Q lets. -/
structure Rk (Q : Nat → Prop) (K : Nat) (w : World) (ao : Option Addr) (n c : Nat) (xs : List Value) : Prop where
  len : xs.length = n * K
  cap : n ≤ c
  at' : 0 < n → ∃ b off cur e, Q b ∧ ao = some ⟨b, off, none⟩ ∧ w.heap[b]? = some (.cells cur e (0, 0)) ∧ ∀ j, j < n * K → cur[off + j]? = xs[j]?

/-- The blocks that Q lets are in w' as they were. -/
def Sm (Q : Nat → Prop) (w w' : World) : Prop := ∀ x, Q x → x < w.heap.size → w'.heap[x]? = w.heap[x]?

theorem Kp.sm {w w' : World} (k : Kp [] w w') (Q : Nat → Prop) : Sm Q w w' := fun x _ hx => k.block x hx (by simp)
theorem Kp.sms {S : List Nat} {w w' : World} (k : Kp S w w') {Q : Nat → Prop} (h : ∀ x, Q x → x ∉ S) : Sm Q w w' := fun x hq hx => k.block x hx (h x hq)

theorem Rk.keep {Q : Nat → Prop} {K : Nat} {w w' : World} {ao : Option Addr} {n c : Nat} {xs : List Value} (h : Rk Q K w ao n c xs) (hs : Sm Q w w') : Rk Q K w' ao n c xs := by
  refine ⟨h.len, h.cap, fun hn => ?_⟩
  obtain ⟨b, off, cur, e, hq, h1, h2, h3⟩ := h.at' hn
  exact ⟨b, off, cur, e, hq, h1, by rw [hs b hq (Array.getElem?_eq_some_iff.1 h2).1]; exact h2, h3⟩

theorem Rk.kept {Q : Nat → Prop} {K : Nat} {w w' : World} {ao : Option Addr} {n c : Nat} {xs : List Value} (h : Rk Q K w ao n c xs) (k : Kp [] w w') : Rk Q K w' ao n c xs := h.keep (k.sm Q)

theorem Rk.mono {Q R : Nat → Prop} {K : Nat} {w : World} {ao : Option Addr} {n c : Nat} {xs : List Value} (h : Rk Q K w ao n c xs) (hr : ∀ x, x < w.heap.size → Q x → R x) : Rk R K w ao n c xs := by
  refine ⟨h.len, h.cap, fun hn => ?_⟩
  obtain ⟨b, off, cur, e, hq, h1, h2, h3⟩ := h.at' hn
  exact ⟨b, off, cur, e, hr b (Array.getElem?_eq_some_iff.1 h2).1 hq, h1, h2, h3⟩

theorem Rk.of_own {K : Nat} {w : World} {e : TypeId} {ao : Option Addr} {n m c : Nat} {xs : List Value} {Q : Nat → Prop} (h : OwnK K w e (.slice ao n c) m xs) (hm : m = n) (hq : ∀ x, x ∈ blk (.slice ao n c) → Q x) : Rk Q K w ao n c xs := by
  subst hm
  obtain ⟨h0, h⟩ := h
  rcases h with ⟨h1, h2⟩ | ⟨g, o, cap, cur, hv, hg, h1, h2, h3, h4⟩
  · simp only [Value.slice.injEq] at h1
    obtain ⟨rfl, _, rfl⟩ := h1
    subst h2
    exact ⟨h0, Nat.le_refl _, fun hn => by omega⟩
  · simp only [Value.slice.injEq] at hv
    obtain ⟨rfl, _, rfl⟩ := hv
    exact ⟨h0, h1, fun hn => ⟨g, o, cur, e, hq g (by simp [blk]), rfl, hg, h4⟩⟩

theorem Rk.nil (Q : Nat → Prop) (K : Nat) (w : World) (ao : Option Addr) (c : Nat) : Rk Q K w ao 0 c [] := ⟨by simp, Nat.zero_le _, fun hn => by omega⟩

/-- One list of cells alone. -/
theorem Rk.det {Q R : Nat → Prop} {K : Nat} {w : World} {ao : Option Addr} {n c : Nat} {xs ys : List Value} (h : Rk Q K w ao n c xs) (k : Rk R K w ao n c ys) : xs = ys := by
  have h1 := h.len
  have h2 := k.len
  apply List.ext_getElem? 
  intro j
  by_cases hj : j < n * K
  · have hn : 0 < n := Nat.pos_of_ne_zero (fun e => by subst e; simp at hj)
    obtain ⟨b, off, cur, e, _, e1, e2, e3⟩ := h.at' hn
    obtain ⟨b', off', cur', e', _, f1, f2, f3⟩ := k.at' hn
    rw [e1] at f1
    simp only [Option.some.injEq, Addr.mk.injEq] at f1
    obtain ⟨rfl, rfl, _⟩ := f1
    rw [e2] at f2
    simp only [Option.some.injEq, Obj.cells.injEq] at f2
    obtain ⟨rfl, _⟩ := f2
    rw [← e3 j hj, ← f3 j hj]
  · rw [List.getElem?_eq_none (by omega), List.getElem?_eq_none (by omega)]

/-- The first ones. -/
theorem Rk.take {Q : Nat → Prop} {K : Nat} {w : World} {ao : Option Addr} {n c : Nat} {xs : List Value} (h : Rk Q K w ao n c xs) (k : Nat) (hk : k ≤ n) : Rk Q K w ao k c (xs.take (k * K)) := by
  have hl := h.len
  have hm := Nat.mul_le_mul_right K hk
  refine ⟨by rw [List.length_take]; omega, by have := h.cap; omega, fun hn => ?_⟩
  obtain ⟨b, off, cur, e, hq, h1, h2, h3⟩ := h.at' (by omega)
  exact ⟨b, off, cur, e, hq, h1, h2, fun j hj => by rw [h3 j (by omega), List.getElem?_take_of_lt hj]⟩

/-- It may be appended. -/
theorem Rk.src {P : Program} {t e : TypeId} {K : Nat} {Q : Nat → Prop} (ht : P.underlying t = some (.slice e)) {w : World} {ao : Option Addr} {n c : Nat} {xs : List Value} (h : Rk Q K w ao n c xs) (h1 : ∀ u, u ∈ xs → u.oneCell' = true) : Src P K t (.slice ao n c) n xs w := by
  have hl := h.len
  rcases Nat.eq_zero_or_pos n with h0 | h0
  · subst h0
    have : xs = [] := List.eq_nil_of_length_eq_zero (by simpa using hl)
    subst this
    cases ao with
    | none => exact Src.ofNil w ht c
    | some a => exact Src.ofSlice w ht a 0 c [] (by simp) (fun j u hj => by simp at hj) (fun u hu => by simp at hu)
  · obtain ⟨b, off, cur, e', hq, rfl, h2, h3⟩ := h.at' h0
    refine Src.ofSlice w ht ⟨b, off, none⟩ n c xs hl (fun j u hj => ?_) h1
    have hjl := (List.getElem?_eq_some_iff.1 hj).1
    rw [Addr.add_lit, cell_of h2, h3 j (by omega)]
    exact hj

/-- Attributes that a slice reads as. -/
theorem Rk.rp {Q : Nat → Prop} {w : World} {ao : Option Addr} {n c : Nat} {l : List Att} (h : Rk Q 2 w ao n c (cs l)) : Rp w ao n c l := by
  have h0 := h.len
  rw [cs_len] at h0
  refine ⟨by omega, h.cap, fun j hj => ?_⟩
  obtain ⟨b, off, cur, e, hq, h1, h2, h3⟩ := h.at' (by omega)
  exact ⟨b, off, h1, by rw [cell_of h2, h3 j hj]⟩

theorem Mp.rk {w w' : World} {ao : Option Addr} {n c : Nat} {l : List Att} (h : Mp w w' ao n c l) {Q : Nat → Prop} (hq : ∀ x, w.heap.size ≤ x → Q x) : Rk Q 2 w' ao n c (cs l) :=
  Rk.of_own h.1 rfl (fun x hx => hq x (h.2.2 x hx))

/-- Where the lists of a node lie: its attributes and its kids. -/
abbrev Pl := (Option Addr × Nat × Nat) × (Option Addr × Nat × Nat)

/-- The cells of a node. -/
def six (l : Lb) (p : Pl) : List Value := [.int .i64 l.kind, .int .i64 l.ns, .string l.name, .slice p.1.1 p.1.2.1 p.1.2.2, .string l.text, .slice p.2.1 p.2.2.1 p.2.2.2]

/-- A tree, as a value. -/
def wv (l : Lb) (p : Pl) : Value := .agg #[.int .i64 l.kind, .int .i64 l.ns, .string l.name, .slice p.1.1 p.1.2.1 p.1.2.2, .string l.text, .slice p.2.1 p.2.2.1 p.2.2.2]

theorem six_len (l : Lb) (p : Pl) : (six l p).length = 6 := rfl

/-- These cells are a row of nodes, all of whose lists lie in blocks that Q lets. -/
def Lf (Q : Nat → Prop) (w : World) : Fo → List Value → Prop
  | ⟨false, _, _, _⟩, xs => xs = []
  | ⟨true, l, k, r⟩, xs => ∃ (p : Pl) (zs ys : List Value), xs = six (l rfl) p ++ ys ∧ Rk Q 2 w p.1.1 p.1.2.1 p.1.2.2 (cs (l rfl).attrs) ∧ Rk Q 6 w p.2.1 p.2.2.1 p.2.2.2 zs ∧ Lf Q w (k rfl) zs ∧ Lf Q w (r rfl) ys

/-- The slice of n nodes from bo on, with room for d, is the row f. -/
def Rt (Q : Nat → Prop) (w : World) (bo : Option Addr) (m d : Nat) (f : Fo) : Prop := ∃ zs, Rk Q 6 w bo m d zs ∧ Lf Q w f zs

/-- A node's lists are there: attributes and kids. -/
structure Nd (Q : Nat → Prop) (w : World) (l : Lb) (k : Fo) (p : Pl) : Prop where
  at' : Rk Q 2 w p.1.1 p.1.2.1 p.1.2.2 (cs l.attrs)
  kids : Rt Q w p.2.1 p.2.2.1 p.2.2.2 k

theorem Lf.nil (Q : Nat → Prop) (w : World) : Lf Q w .nil [] := rfl
theorem Lf.nil_iff {Q : Nat → Prop} {w : World} {xs : List Value} : Lf Q w .nil xs ↔ xs = [] := Iff.rfl

theorem Lf.cons_iff {Q : Nat → Prop} {w : World} {l : Lb} {k r : Fo} {xs : List Value} : Lf Q w (.cons l k r) xs ↔ ∃ (p : Pl) (ys : List Value), xs = six l p ++ ys ∧ Nd Q w l k p ∧ Lf Q w r ys := by
  constructor
  · rintro ⟨p, zs, ys, h1, h2, h3, h6, h7⟩
    exact ⟨p, ys, h1, ⟨h2, ⟨zs, h3, h6⟩⟩, h7⟩
  · rintro ⟨p, ys, h1, ⟨h2, ⟨zs, h3, h6⟩⟩, h7⟩
    exact ⟨p, zs, ys, h1, h2, h3, h6, h7⟩

theorem Lf.cons {Q : Nat → Prop} {w : World} {l : Lb} {k r : Fo} {p : Pl} {ys : List Value} (h : Nd Q w l k p) (hr : Lf Q w r ys) : Lf Q w (.cons l k r) (six l p ++ ys) := Lf.cons_iff.2 ⟨p, ys, rfl, h, hr⟩

theorem Lf.len {Q : Nat → Prop} {w : World} {f : Fo} : ∀ {xs}, Lf Q w f xs → xs.length = f.len * 6 := by
  refine Fo.ind (P := fun f => ∀ {xs}, Lf Q w f xs → xs.length = f.len * 6) (fun {xs} h => ?_) (fun l k r _ hr {xs} h => ?_) f
  · rw [Lf.nil_iff.1 h]; rfl
  · obtain ⟨p, ys, rfl, _, h2⟩ := Lf.cons_iff.1 h
    rw [List.length_append, six_len, hr h2, Fo.len_cons]; omega

theorem Lf.keep {Q : Nat → Prop} {w w' : World} (hs : Sm Q w w') {f : Fo} : ∀ {xs}, Lf Q w f xs → Lf Q w' f xs := by
  refine Fo.ind (P := fun f => ∀ {xs}, Lf Q w f xs → Lf Q w' f xs) (fun {xs} h => h) (fun l k r hk hr {xs} h => ?_) f
  obtain ⟨p, ys, rfl, ⟨h1, ⟨zs, h2, h3⟩⟩, h6⟩ := Lf.cons_iff.1 h
  exact Lf.cons ⟨h1.keep hs, ⟨zs, h2.keep hs, hk h3⟩⟩ (hr h6)

theorem Rt.keep {Q : Nat → Prop} {w w' : World} {bo : Option Addr} {m d : Nat} {f : Fo} (h : Rt Q w bo m d f) (hs : Sm Q w w') : Rt Q w' bo m d f := by
  obtain ⟨zs, h1, h2⟩ := h
  exact ⟨zs, h1.keep hs, h2.keep hs⟩
theorem Nd.keep {Q : Nat → Prop} {w w' : World} {l : Lb} {f : Fo} {p : Pl} (h : Nd Q w l f p) (hs : Sm Q w w') : Nd Q w' l f p := ⟨h.at'.keep hs, h.kids.keep hs⟩
theorem Lf.kept {Q : Nat → Prop} {w w' : World} {f : Fo} {xs : List Value} (h : Lf Q w f xs) (k : Kp [] w w') : Lf Q w' f xs := h.keep (k.sm Q)
theorem Rt.kept {Q : Nat → Prop} {w w' : World} {bo : Option Addr} {m d : Nat} {f : Fo} (h : Rt Q w bo m d f) (k : Kp [] w w') : Rt Q w' bo m d f := h.keep (k.sm Q)
theorem Nd.kept {Q : Nat → Prop} {w w' : World} {l : Lb} {f : Fo} {p : Pl} (h : Nd Q w l f p) (k : Kp [] w w') : Nd Q w' l f p := h.keep (k.sm Q)

theorem Lf.mono {Q R : Nat → Prop} {w : World} (hr : ∀ x, x < w.heap.size → Q x → R x) {f : Fo} : ∀ {xs}, Lf Q w f xs → Lf R w f xs := by
  refine Fo.ind (P := fun f => ∀ {xs}, Lf Q w f xs → Lf R w f xs) (fun {xs} h => h) (fun l k r hk hr' {xs} h => ?_) f
  obtain ⟨p, ys, rfl, ⟨h1, ⟨zs, h2, h3⟩⟩, h6⟩ := Lf.cons_iff.1 h
  exact Lf.cons ⟨h1.mono hr, ⟨zs, h2.mono hr, hk h3⟩⟩ (hr' h6)
theorem Rt.mono {Q R : Nat → Prop} {w : World} {bo : Option Addr} {m d : Nat} {f : Fo} (h : Rt Q w bo m d f) (hr : ∀ x, x < w.heap.size → Q x → R x) : Rt R w bo m d f := by
  obtain ⟨zs, h1, h2⟩ := h
  exact ⟨zs, h1.mono hr, h2.mono hr⟩
theorem Nd.mono {Q R : Nat → Prop} {w : World} {l : Lb} {f : Fo} {p : Pl} (h : Nd Q w l f p) (hr : ∀ x, x < w.heap.size → Q x → R x) : Nd R w l f p := ⟨h.at'.mono hr, h.kids.mono hr⟩
theorem Nd.any {Q : Nat → Prop} {w : World} {l : Lb} {f : Fo} {p : Pl} (h : Nd Q w l f p) : Nd Any w l f p := h.mono (fun _ _ _ => trivial)

theorem six_inj {l m : Lb} {p q : Pl} {ys zs : List Value} (h : six l p ++ ys = six m q ++ zs) : l.kind = m.kind ∧ l.ns = m.ns ∧ l.name = m.name ∧ l.text = m.text ∧ p = q ∧ ys = zs := by
  simp only [six, List.cons_append, List.nil_append, List.cons.injEq, Value.int.injEq, Value.string.injEq, Value.slice.injEq, true_and] at h
  obtain ⟨h1, h2, h3, ⟨h4, h5, h6⟩, h7, ⟨h8, h9, h10⟩, h11⟩ := h
  exact ⟨h1, h2, h3, h7, by
    obtain ⟨⟨a, b, c⟩, d, e, f⟩ := p
    obtain ⟨⟨a', b', c'⟩, d', e', f'⟩ := q
    simp only at h4 h5 h6 h8 h9 h10
    subst h4 h5 h6 h8 h9 h10
    rfl, h11⟩

/-- The cells are one row alone. -/
theorem Lf.det {Q R : Nat → Prop} {w : World} {f : Fo} : ∀ {g xs}, Lf Q w f xs → Lf R w g xs → f = g := by
  refine Fo.ind (P := fun f => ∀ {g xs}, Lf Q w f xs → Lf R w g xs → f = g) (fun {g xs} h h' => ?_) (fun l k r hk hr {g xs} h h' => ?_) f
  · rw [Lf.nil_iff.1 h] at h'
    have := h'.len
    exact (Fo.len_zero.1 (by simp at this; omega)).symm
  · revert h'
    refine Fo.cases (P := fun g => Lf R w g xs → Fo.cons l k r = g) g (fun h' => ?_) (fun l' k' r' h' => ?_)
    · rw [Lf.nil_iff.1 h'] at h
      have := h.len
      simp at this
    · obtain ⟨p, ys, rfl, ⟨h1, ⟨zs, h2, h3⟩⟩, h6⟩ := Lf.cons_iff.1 h
      obtain ⟨p', ys', e, ⟨h1', ⟨zs', h2', h3'⟩⟩, h6'⟩ := Lf.cons_iff.1 h'
      obtain ⟨e1, e2, e3, e4, rfl, rfl⟩ := six_inj e
      have ea : l.attrs = l'.attrs := cs_inj _ _ (h1.det h1')
      obtain rfl := h2.det h2'
      obtain rfl := hk h3 h3'
      obtain rfl := hr h6 h6'
      have : l = l' := by
        obtain ⟨a, b, c, d, e⟩ := l
        obtain ⟨a', b', c', d', e'⟩ := l'
        simp only [Lb.kind, Lb.ns, Lb.name, Lb.text, Lb.attrs] at e1 e2 e3 e4 ea
        subst e1 e2 e3 e4 ea
        rfl
      rw [this]

theorem Rt.det {Q R : Nat → Prop} {w : World} {bo : Option Addr} {m d : Nat} {f g : Fo} (h : Rt Q w bo m d f) (k : Rt R w bo m d g) : f = g := by
  obtain ⟨zs, h1, h2⟩ := h
  obtain ⟨zs', k1, k2⟩ := k
  obtain rfl := h1.det k1
  exact h2.det k2

theorem Rt.nil (Q : Nat → Prop) (w : World) (bo : Option Addr) (d : Nat) : Rt Q w bo 0 d .nil := ⟨[], Rk.nil Q 6 w bo d, rfl⟩

theorem Rt.len {Q : Nat → Prop} {w : World} {bo : Option Addr} {m d : Nat} {f : Fo} (h : Rt Q w bo m d f) : m = f.len := by
  obtain ⟨zs, h1, h2⟩ := h
  have := h1.len
  have := h2.len
  omega

theorem Rt.cap {Q : Nat → Prop} {w : World} {bo : Option Addr} {m d : Nat} {f : Fo} (h : Rt Q w bo m d f) : m ≤ d := by
  obtain ⟨zs, h1, h2⟩ := h
  exact h1.cap

theorem Nd.klen {Q : Nat → Prop} {w : World} {l : Lb} {k : Fo} {p : Pl} (h : Nd Q w l k p) : p.2.2.1 = k.len := h.kids.len
theorem Nd.alen {Q : Nat → Prop} {w : World} {l : Lb} {k : Fo} {p : Pl} (h : Nd Q w l k p) : p.1.2.1 = l.attrs.length := h.at'.rp.len

theorem Lf.app {Q : Nat → Prop} {w : World} {f g : Fo} {ys : List Value} (hg : Lf Q w g ys) : ∀ {xs}, Lf Q w f xs → Lf Q w (f.app g) (xs ++ ys) := by
  refine Fo.ind (P := fun f => ∀ {xs}, Lf Q w f xs → Lf Q w (f.app g) (xs ++ ys)) (fun {xs} h => ?_) (fun l k r _ hr {xs} h => ?_) f
  · rw [Lf.nil_iff.1 h]; exact hg
  · obtain ⟨p, zs, rfl, h1, h2⟩ := Lf.cons_iff.1 h
    rw [List.append_assoc, Fo.app_cons]
    exact Lf.cons h1 (hr h2)

theorem Lf.drop {Q : Nat → Prop} {w : World} (n : Nat) {f : Fo} {xs : List Value} (h : Lf Q w f xs) : Lf Q w (f.drop n) (xs.drop (n * 6)) := by
  induction n generalizing f xs with
  | zero => simpa using h
  | succ n ih =>
    revert h
    refine Fo.cases (P := fun f => Lf Q w f xs → Lf Q w (f.drop (n + 1)) (xs.drop ((n + 1) * 6))) f (fun h => ?_) (fun l k r h => ?_)
    · rw [Lf.nil_iff.1 h]; simp [Lf.nil]
    · obtain ⟨p, ys, rfl, h1, h2⟩ := Lf.cons_iff.1 h
      rw [show (n + 1) * 6 = 6 + n * 6 by omega, ← List.drop_drop, List.drop_left' (six_len l p), Fo.drop_cons]
      exact ih h2

theorem Lf.take {Q : Nat → Prop} {w : World} (n : Nat) {f : Fo} {xs : List Value} (h : Lf Q w f xs) : Lf Q w (f.take n) (xs.take (n * 6)) := by
  induction n generalizing f xs with
  | zero => simp [Lf.nil]
  | succ n ih =>
    revert h
    refine Fo.cases (P := fun f => Lf Q w f xs → Lf Q w (f.take (n + 1)) (xs.take ((n + 1) * 6))) f (fun h => ?_) (fun l k r h => ?_)
    · rw [Lf.nil_iff.1 h]; simp [Lf.nil]
    · obtain ⟨p, ys, rfl, h1, h2⟩ := Lf.cons_iff.1 h
      rw [show (n + 1) * 6 = 6 + n * 6 by omega, List.take_append, six_len, List.take_of_length_le (by rw [six_len]; omega), Nat.add_sub_cancel_left, Fo.take_cons]
      exact Lf.cons h1 (ih h2)

/-- A node at a place of the row: its cells, and its lists. -/
theorem Lf.at {Q : Nat → Prop} {w : World} {f : Fo} {xs : List Value} (h : Lf Q w f xs) {n : Nat} {l : Lb} {k r : Fo} (e : f.drop n = .cons l k r) : ∃ p, Nd Q w l k p ∧ ∀ i, i < 6 → xs[n * 6 + i]? = (six l p)[i]? := by
  have h1 := h.drop n
  rw [e] at h1
  obtain ⟨p, ys, h2, h3, _⟩ := Lf.cons_iff.1 h1
  refine ⟨p, h3, fun i hi => ?_⟩
  rw [← List.getElem?_drop, h2, List.getElem?_append_left (by rw [six_len]; exact hi)]

/-- A node's six cells lie at an address. -/
def Cl (w : World) (b off : Nat) (l : Lb) (p : Pl) : Prop := ∃ cur e, w.heap[b]? = some (.cells cur e (0, 0)) ∧ ∀ i, i < 6 → cur[off + i]? = (six l p)[i]?

theorem Cl.cells {w : World} {b off : Nat} {l : Lb} {p : Pl} (h : Cl w b off l p) : w.cell? ⟨b, off, none⟩ = some (.int .i64 l.kind) ∧ w.cell? ⟨b, off + 1, none⟩ = some (.int .i64 l.ns) ∧ w.cell? ⟨b, off + 2, none⟩ = some (.string l.name) ∧ w.cell? ⟨b, off + 3, none⟩ = some (.slice p.1.1 p.1.2.1 p.1.2.2) ∧ w.cell? ⟨b, off + 4, none⟩ = some (.string l.text) ∧ w.cell? ⟨b, off + 5, none⟩ = some (.slice p.2.1 p.2.2.1 p.2.2.2) := by
  obtain ⟨cur, e, h1, h2⟩ := h
  exact ⟨(cell_of h1 _).trans (h2 0 (by omega)), (cell_of h1 _).trans (h2 1 (by omega)), (cell_of h1 _).trans (h2 2 (by omega)), (cell_of h1 _).trans (h2 3 (by omega)), (cell_of h1 _).trans (h2 4 (by omega)), (cell_of h1 _).trans (h2 5 (by omega))⟩

theorem Cl.lt {w : World} {b off : Nat} {l : Lb} {p : Pl} (h : Cl w b off l p) : b < w.heap.size := by
  obtain ⟨cur, e, h1, h2⟩ := h
  exact (Array.getElem?_eq_some_iff.1 h1).1

theorem Cl.keep {S : List Nat} {w w' : World} {b off : Nat} {l : Lb} {p : Pl} (h : Cl w b off l p) (k : Kp S w w') (hn : b ∉ S) : Cl w' b off l p := by
  have hl := h.lt
  obtain ⟨cur, e, h1, h2⟩ := h
  exact ⟨cur, e, by rw [k.block b hl hn]; exact h1, h2⟩

theorem Rt.at {Q : Nat → Prop} {w : World} {bo : Option Addr} {m d : Nat} {f : Fo} (h : Rt Q w bo m d f) {n : Nat} {l : Lb} {k r : Fo} (e : f.drop n = .cons l k r) :
    ∃ p b off, Q b ∧ bo = some ⟨b, off, none⟩ ∧ Nd Q w l k p ∧ Cl w b (off + n * 6) l p := by
  have hm := h.len
  have hn : n < f.len := by
    have h1 := congrArg Fo.len e
    rw [Fo.len_drop, Fo.len_cons] at h1
    omega
  obtain ⟨zs, h1, h2⟩ := h
  obtain ⟨p, h3, h4⟩ := h2.at e
  obtain ⟨b, off, cur, e', hq, h5, h6, h7⟩ := h1.at' (by omega)
  exact ⟨p, b, off, hq, h5, h3, cur, e', h6, fun i hi => by rw [Nat.add_assoc, h7 _ (by omega), h4 i hi]⟩

/-- Another node with other kids put at a place of the row. -/
theorem Lf.put {Q : Nat → Prop} {w : World} {f : Fo} {xs : List Value} (h : Lf Q w f xs) {n : Nat} {l : Lb} {k r : Fo} (e : f.drop n = .cons l k r) (g : Fo → Fo) {p : Pl} (hp : Nd Q w l (g k) p) : Lf Q w (f.turn g n) (xs.take (n * 6) ++ (six l p ++ xs.drop ((n + 1) * 6))) := by
  induction n generalizing f xs with
  | zero =>
    rw [Fo.drop_zero] at e
    subst e
    obtain ⟨p', ys, rfl, h1, h2⟩ := Lf.cons_iff.1 h
    rw [show (0 + 1) * 6 = 6 from rfl, List.drop_left' (six_len l p')]
    simpa using Lf.cons hp h2
  | succ n ih =>
    revert h e
    refine Fo.cases (P := fun f => Lf Q w f xs → f.drop (n + 1) = .cons l k r → Lf Q w (f.turn g (n + 1)) (xs.take ((n + 1) * 6) ++ (six l p ++ xs.drop ((n + 1 + 1) * 6)))) f (fun h e => ?_) (fun l' k' r' h e => ?_)
    · have := congrArg Fo.len e; simp at this
    · obtain ⟨p', ys, rfl, h1, h2⟩ := Lf.cons_iff.1 h
      rw [Fo.drop_cons] at e
      rw [show (n + 1) * 6 = 6 + n * 6 by omega, show (n + 1 + 1) * 6 = 6 + (n + 1) * 6 by omega, List.take_append, six_len, List.take_of_length_le (by rw [six_len]; omega), Nat.add_sub_cancel_left, ← List.drop_drop, List.drop_left' (six_len l' p'), Fo.turn_succ, List.append_assoc]
      exact Lf.cons h1 (ih h2 e)

theorem Lf.one {Q : Nat → Prop} {w : World} {f : Fo} : ∀ {xs}, Lf Q w f xs → ∀ u, u ∈ xs → u.oneCell' = true := by
  refine Fo.ind (P := fun f => ∀ {xs}, Lf Q w f xs → ∀ u, u ∈ xs → u.oneCell' = true) (fun {xs} h u hu => ?_) (fun l k r _ hr {xs} h u hu => ?_) f
  · rw [Lf.nil_iff.1 h] at hu; simp at hu
  · obtain ⟨p, ys, rfl, _, h2⟩ := Lf.cons_iff.1 h
    rw [List.mem_append] at hu
    rcases hu with hu | hu
    · simp only [six, List.mem_cons, List.not_mem_nil, or_false] at hu
      rcases hu with rfl | rfl | rfl | rfl | rfl | rfl <;> rfl
    · exact hr h2 u hu

end Go.Proofs.YtpkppobkagdhkaaGreat

/-
  What the methods of a pile of pairs (a number, an address) do to the world.
-/
namespace Go.Proofs.YtpkppobkagdhkaaGreat
open Go.RowKit

def zpc : Value := .agg #[.int .i64 0, .pointer none]
theorem infoCc : (Tryz.prog.info? 82).map (fun i => (i.zero, i.size, i.bytes)) = some (some zpc, 2, 16) := by kernel_rfl

/-- A place, as a value. -/
def pvc (a : Addr) (i : Int) : Value := .agg #[.int .i64 i, .pointer (some a)]
def pcc (a : Addr) (i : Int) : List Value := [.int .i64 i, .pointer (some a)]

theorem cp_new (w : World) : Calls Tryz.prog 35 #[] w fun e w' => e = .returned (.pointer (some ⟨w.heap.size, 0, none⟩)) ∧ w' = w.alloc (.cells #[.slice none 0 0] 123) := by
  go_enter Tryz.func35, Tryz.ntmps35
  go_wp2
  go_ret
  exact ⟨rfl, rfl⟩


theorem pcc_one (a : Addr) (i : Int) : ∀ u, u ∈ pcc a i → u.oneCell' = true := fun u hu => by
  simp [pcc] at hu
  rcases hu with rfl | rfl <;> rfl

set_option maxHeartbeats 1000000 in
theorem cp_push (w : World) (p : Nat) (v : Value) (n : Nat) (xs : List Value) (a : Addr) (i : Int) (h : Pk 2 w 123 82 p v n xs) (hl : n < 100000) :
    Calls Tryz.prog 36 #[.pointer (some ⟨p, 0, none⟩), pvc a i] w fun e w' => e = .returned (.tuple #[]) ∧ Tk 2 w w' 123 82 p v (n + 1) (xs ++ pcc a i) := by
  obtain ⟨ao, c, rfl, hc, hf, hnc, hpl, _⟩ := h.out
  obtain ⟨hp, hown, hpb⟩ := h
  obtain ⟨w1, hw1⟩ : ∃ w1, w1 = ((w.alloc (.cells #[.int .i64 i, .pointer (some a)] 82)).alloc (.cells #[.int .i64 i, .pointer (some a)] 82)).drew := ⟨_, rfl⟩
  have hk1 : Kp [] w w1 := by rw [hw1]; exact (((Kp.refl _ _).alloc _).alloc _).drew
  have hown1 : OwnK 2 w1 82 (.slice ao n c) n xs := hown.keep hk1 (fun _ _ => by simp)
  have hq : w1.heap[w.heap.size + 1]? = some (.cells #[.int .i64 i, .pointer (some a)] 82 (0, 0)) := by rw [hw1]; exact heap_new' _ _ _ (by simp)
  obtain ⟨v', w2, hrun, hown2, hk2, hb2, a2, c2, hv2⟩ := appK Tryz.underlying121 infoCc rfl (by decide) w1 _ n xs hown1 _ 1 _ (src_new Tryz.underlying121 hq (pcc a i) rfl (pcc_one a i)) (fun _ => by omega) (by omega)
  have hsz : w1.heap.size = w.heap.size + 2 := by rw [hw1]; simp
  have hp2 : w2.heap[p]? = some (.cells #[.slice ao n c] 123 (0, 0)) := by
    rw [hk2.block p (by omega) hpb, hk1.block p hpl (by simp)]; exact hp
  have hc2 : w2.cell? ⟨p, 0, none⟩ = some (.slice ao n c) := by rw [cell_of hp2]; rfl
  have hf2 : w2.frozen? ⟨p, 0, none⟩ = false := frozen_of hp2 0
  have hfin : Hid (Tk 2 w (w2.setCell ⟨p, 0, none⟩ v') 123 82 p (.slice ao n c) (n + 1) (xs ++ pcc a i)) := by
    refine Tk.mk hpl hp2 hpb hown2 ((hk1.mono (T := p :: blk _) (fun y hy => by simp at hy)).trans hk2 (fun y hy => Or.inl (by simp [hy]))) (fun k hk => ?_)
    rcases hb2 k hk with h1 | h1
    · exact Or.inl h1
    · right; omega
  rw [hw1] at hrun
  subst hv2
  clear hk1 hown1 hown2 hk2 hb2 hp2 hown hq hsz hw1 hp hpb
  unfold pvc
  go_enter Tryz.func36, Tryz.ntmps36
  go_wp2_with fail
  refine wp_region_any (by kernel_rfl) ?_
  change wpAny _ _ _ _ _ _ _ (World.drew _)
  refine wpAny_take (i := 0) (v := ?_) rfl (by kernel_rfl) (by kernel_rfl) (by kernel_rfl) (fun _ _ _ h => h) (Or.inl ⟨by rfl, ?_⟩) ?_
  rotate_left
  · intro w; go_simp <;> with_reducible rfl
  refine wpAny_take (i := 1) (v := ?_) rfl (by kernel_rfl) (by kernel_rfl) (by kernel_rfl) (fun _ _ _ h => h) (Or.inl ⟨by rfl, ?_⟩) ?_
  rotate_left
  · intro w; go_simp <;> with_reducible rfl
  refine wpAny_take (i := 2) (v := ?_) rfl (by kernel_rfl) (by kernel_rfl) (by kernel_rfl) (fun _ _ _ h => h) (Or.inl ⟨by rfl, ?_⟩) ?_
  rotate_left
  · intro w; go_simp <;> with_reducible rfl
  refine wpAny_take (i := 3) (v := ?_) rfl (by kernel_rfl) (by kernel_rfl) (by kernel_rfl) (fun _ _ _ h => h) (Or.inl ⟨by rfl, ?_⟩) ?_
  rotate_left
  · intro w; go_simp <;> with_reducible rfl
  refine wpAny_ready (rs := [4, 5]) (by kernel_rfl) (by simp) (AllReady.cons rfl (fun K hK => ?_) (AllReady.cons rfl (fun K hK => ?_) AllReady.nil))
  · go_simp; refine hK _ _ ?_; clear hK K
    refine wpAny_ready (rs := [5]) (by kernel_rfl) (by simp) (AllReady.cons rfl (fun K hK => ?_) AllReady.nil)
    go_simp; refine hK _ _ ?_; clear hK K
    refine wpAny_ready (rs := [6]) (by kernel_rfl) (by simp) (AllReady.cons rfl (fun K hK => ?_) AllReady.nil)
    go_simp; refine hK _ _ ?_; clear hK K
    refine wpAny_ready (rs := [7]) (by kernel_rfl) (by simp) (AllReady.cons rfl (fun K hK => ?_) AllReady.nil)
    refine step_appR (by rfl) _ _ 121 (by rfl) _ _ (by rfl) (by rfl) hrun ?_; refine hK _ _ ?_; clear hK K
    refine wpAny_take (i := 8) (v := ?_) rfl (by kernel_rfl) (by kernel_rfl) (by kernel_rfl) (fun _ _ _ h => h) (Or.inl ⟨by rfl, ?_⟩) ?_
    rotate_left
    · intro w; go_simp <;> with_reducible rfl
    refine wpAny_take (i := 9) (v := ?_) rfl (by kernel_rfl) (by kernel_rfl) (by kernel_rfl) (fun _ _ _ h => h) (Or.inl ⟨by rfl, ?_⟩) ?_
    rotate_left
    · intro w; go_simp <;> with_reducible rfl
    refine wpAny_ready (rs := [10]) (by kernel_rfl) (by simp) (AllReady.cons rfl (fun K hK => ?_) AllReady.nil)
    go_simp; refine hK _ _ ?_; clear hK K
    refine wpAny_done (by kernel_rfl) ?_ _
    go_end0
    exact ⟨rfl, hfin.out⟩
  · go_simp; refine hK _ _ ?_; clear hK K
    refine wpAny_ready (rs := [4, 6]) (by kernel_rfl) (by simp) (AllReady.cons rfl (fun K hK => ?_) (AllReady.cons rfl (fun K hK => ?_) AllReady.nil))
    · go_simp; refine hK _ _ ?_; clear hK K
      refine wpAny_ready (rs := [6]) (by kernel_rfl) (by simp) (AllReady.cons rfl (fun K hK => ?_) AllReady.nil)
      go_simp; refine hK _ _ ?_; clear hK K
      refine wpAny_ready (rs := [7]) (by kernel_rfl) (by simp) (AllReady.cons rfl (fun K hK => ?_) AllReady.nil)
      refine step_appR (by rfl) _ _ 121 (by rfl) _ _ (by rfl) (by rfl) hrun ?_; refine hK _ _ ?_; clear hK K
      refine wpAny_take (i := 8) (v := ?_) rfl (by kernel_rfl) (by kernel_rfl) (by kernel_rfl) (fun _ _ _ h => h) (Or.inl ⟨by rfl, ?_⟩) ?_
      rotate_left
      · intro w; go_simp <;> with_reducible rfl
      refine wpAny_take (i := 9) (v := ?_) rfl (by kernel_rfl) (by kernel_rfl) (by kernel_rfl) (fun _ _ _ h => h) (Or.inl ⟨by rfl, ?_⟩) ?_
      rotate_left
      · intro w; go_simp <;> with_reducible rfl
      refine wpAny_ready (rs := [10]) (by kernel_rfl) (by simp) (AllReady.cons rfl (fun K hK => ?_) AllReady.nil)
      go_simp; refine hK _ _ ?_; clear hK K
      refine wpAny_done (by kernel_rfl) ?_ _
      go_end0
      exact ⟨rfl, hfin.out⟩
    · go_simp; refine hK _ _ ?_; clear hK K
      refine wpAny_ready (rs := [4]) (by kernel_rfl) (by simp) (AllReady.cons rfl (fun K hK => ?_) AllReady.nil)
      go_simp; refine hK _ _ ?_; clear hK K
      refine wpAny_ready (rs := [7]) (by kernel_rfl) (by simp) (AllReady.cons rfl (fun K hK => ?_) AllReady.nil)
      refine step_appR (by rfl) _ _ 121 (by rfl) _ _ (by rfl) (by rfl) hrun ?_; refine hK _ _ ?_; clear hK K
      refine wpAny_take (i := 8) (v := ?_) rfl (by kernel_rfl) (by kernel_rfl) (by kernel_rfl) (fun _ _ _ h => h) (Or.inl ⟨by rfl, ?_⟩) ?_
      rotate_left
      · intro w; go_simp <;> with_reducible rfl
      refine wpAny_take (i := 9) (v := ?_) rfl (by kernel_rfl) (by kernel_rfl) (by kernel_rfl) (fun _ _ _ h => h) (Or.inl ⟨by rfl, ?_⟩) ?_
      rotate_left
      · intro w; go_simp <;> with_reducible rfl
      refine wpAny_ready (rs := [10]) (by kernel_rfl) (by simp) (AllReady.cons rfl (fun K hK => ?_) AllReady.nil)
      go_simp; refine hK _ _ ?_; clear hK K
      refine wpAny_done (by kernel_rfl) ?_ _
      go_end0
      exact ⟨rfl, hfin.out⟩

theorem cp_holds_in (w : World) (p : Nat) (v : Value) (n : Nat) (xs : List Value) (i : Nat) (h : Pk 2 w 123 82 p v n xs) (h1 : i < n) :
    Calls Tryz.prog 121 #[.pointer (some ⟨p, 0, none⟩), .int .i64 i] w fun e w' => e = .returned (.bool true) ∧ w' = w := by
  obtain ⟨ao, c, rfl, hc, hf, _⟩ := h.out
  clear h
  have h2 : (0 : Int) ≤ (i : Int) := by omega
  have h3 : (i : Int) < (n : Int) := by omega
  go_enter Tryz.func121, Tryz.ntmps121
  go_wp2
  go_ret
  exact ⟨rfl, rfl⟩

theorem cp_holds_none (w : World) (p : Nat) (v : Value) (xs : List Value) (h : Pk 2 w 123 82 p v 0 xs) :
    Calls Tryz.prog 121 #[.pointer (some ⟨p, 0, none⟩), .int .i64 (-1)] w fun e w' => e = .returned (.bool false) ∧ w' = w := by
  obtain ⟨ao, c, rfl, hc, hf, _⟩ := h.out
  clear h
  go_enter Tryz.func121, Tryz.ntmps121
  go_wp2
  go_ret
  exact ⟨rfl, rfl⟩

set_option maxHeartbeats 1000000 in
theorem cp_at_in (w : World) (p : Nat) (v : Value) (n : Nat) (xs : List Value) (i : Nat) (a : Addr) (k : Int) (h : Pk 2 w 123 82 p v n xs) (h1 : i < n) (e0 : xs[i * 2]? = some (.int .i64 k)) (e1 : xs[i * 2 + 1]? = some (.pointer (some a))) (hn : n < 1000000) :
    Calls Tryz.prog 101 #[.pointer (some ⟨p, 0, none⟩), .int .i64 i] w fun e w' => e = .returned (.tuple #[pvc a k, .bool true]) ∧ Kp [] w w' := by
  obtain ⟨ao, c, hv, hc, hf, hnc, hpl, hcs⟩ := h.out
  obtain ⟨g, o, rfl, hgp, hcs⟩ := hcs (by omega)
  have c0 := (hcs (i * 2) (by omega)).1
  have c1 := (hcs (i * 2 + 1) (by omega)).1
  rw [e0] at c0
  rw [e1, ← Nat.add_assoc] at c1
  have hgl : g < w.heap.size := block_lt_of_cell c0
  obtain ⟨w1, hw1⟩ : ∃ w1, w1 = w.alloc (.cells #[.int .i64 0, .pointer none] 82) := ⟨_, rfl⟩
  have hk : Kp [] w w1 := by rw [hw1]; exact (Kp.refl _ _).alloc _
  have hh := cp_holds_in w1 p v n xs i (h.keep hk (by simp) (fun _ _ => by simp)) h1
  rw [hw1] at hh
  have h2 : (0 : Int) ≤ (i : Int) := by omega
  have h3 : (i : Int) < (n : Int) := by omega
  clear h hcs hv e0 e1 hk hw1 w1
  go_enter Tryz.func101, Tryz.ntmps101
  go_wp2_with (go_at_call 121; refine hh.mono ?_; rintro e w' ⟨rfl, rfl⟩)
  refine bodyPost_ret (v := .tuple #[pvc a k, .bool true]) (by simp [results, go_sem, pvc]) rfl ⟨rfl, (Kp.refl _ _).alloc _⟩

set_option maxHeartbeats 1000000 in
theorem cp_at_none (w : World) (p : Nat) (v : Value) (xs : List Value) (h : Pk 2 w 123 82 p v 0 xs) :
    Calls Tryz.prog 101 #[.pointer (some ⟨p, 0, none⟩), .int .i64 (-1)] w fun e w' => e = .returned (.tuple #[zpc, .bool false]) ∧ Kp [] w w' := by
  have hh := fun w1 (hk : Kp [] w w1) => cp_holds_none w1 p v xs (h.keep hk (by simp) (fun _ _ => by simp))
  have H1 := hh _ ((Kp.refl [] w).alloc (.cells #[.int .i64 0, .pointer none] 82))
  clear hh h
  go_enter Tryz.func101, Tryz.ntmps101
  go_wp2_with (go_at_call 121; refine H1.mono ?_; rintro e w' ⟨rfl, rfl⟩)
  refine bodyPost_ret (v := .tuple #[zpc, .bool false]) (by simp [results, go_sem, zpc]) rfl ⟨rfl, ?_⟩
  exact ((Kp.refl _ _).alloc _).alloc _

theorem zvCc (w : World) : (zeroValue 82).run Tryz.prog w = .ok zpc w := by kernel_rfl

set_option maxHeartbeats 1000000 in
/-- slices.Delete, of the last one. -/
theorem cp_delete (w : World) (g o n c : Nat) (xs ys : List Value) (hown : OwnK 2 w 82 (.slice (some ⟨g, o, none⟩) (n + 1) c) (n + 1) (xs ++ ys)) (hx : xs.length = n * 2) (hl : n < 100000) :
    Calls Tryz.prog 102 #[.slice (some ⟨g, o, none⟩) (n + 1) c, .int .i64 (n : Int), .int .i64 ((n : Int) + 1)] w fun e w' => e = .returned (.slice (some ⟨g, o, none⟩) n c) ∧ OwnK 2 w' 82 (.slice (some ⟨g, o, none⟩) n c) n xs ∧ Kp [g] w w' := by
  have HF : Hid (OwnK 2 (w.drew.setCells g (o + n * 2) [.int .i64 0, .pointer none]) 82 (.slice (some ⟨g, o, none⟩) n c) n xs ∧ Kp [g] w (w.drew.setCells g (o + n * 2) [.int .i64 0, .pointer none])) :=
    ⟨(hown.keep (Kp.refl [] w).drew (fun _ _ => by simp)).pop hx rfl, Kp.setCells g (Or.inl (by simp)) _ _ _ (Kp.refl _ _).drew⟩
  have hnc : n + 1 ≤ c := by
    rcases hown.2 with ⟨h1, _⟩ | ⟨g', o', cap', cur, hv, hg, h1, h2, h3, h4⟩
    · cases h1
    · simp only [Value.slice.injEq] at hv
      omega
  have HC : ∀ ty, (Builtin.clear_ #[121] ty #[.slice (some ⟨g, o + n * 2, none⟩) 1 (c - n)]).run Tryz.prog w.drew = .ok (.tuple #[]) (w.drew.setCells g (o + n * 2) [.int .i64 0, .pointer none]) := fun ty => by
    rcases hown.2 with ⟨h1, _⟩ | ⟨g', o', cap', cur, hv, hg, h1, h2, h3, h4⟩
    · cases h1
    · simp only [Value.slice.injEq, Option.some.injEq, Addr.mk.injEq] at hv
      obtain ⟨⟨rfl, rfl, _⟩, _, rfl⟩ := hv
      exact clear_one w.drew 121 82 ty zpc _ Tryz.underlying121 zvCc rfl (fun u hu => by simp at hu; rcases hu with rfl | rfl <;> rfl) g (o + n * 2) (c - n)
        (fun j hj => by
          show (w.cell? _).isSome = true
          simp at hj
          rw [cell_of hg, Array.getElem?_eq_getElem (by omega)]; rfl) (fun j hj => frozen_of (w := w) hg _)
  have HA : ∀ W : World, (storeCells ⟨g, o + n * 2, none⟩ []).run Tryz.prog W = .ok () W := fun W => rfl
  clear hown hx
  have i1 : (0 : Int) ≤ (n : Int) := by omega
  have i4 : (0 : Int) ≤ (n : Int) + 1 := by omega
  have i5 : (n : Int) ≤ (n : Int) + 1 := by omega
  by_cases hlt : n + 1 < c
  · have i2 : (n : Int) ≤ (c : Int) := by omega
    have i3 : (n : Int) + 1 ≤ (c : Int) := by omega
    have i6 : ¬ c = n + 1 := by omega
    have HB := app_none (P := Tryz.prog) Tryz.underlying121 infoCc w.drew g o n c ⟨g, o + (n + 1) * 2, none⟩ (c - (n + 1)) (by omega)
    clear HA
    go_enter Tryz.func102, Tryz.ntmps102
    go_wp2_with fail
    go_region_held3 (fun _ => True) (trivial)
      (first | refine step_appR (by rfl) _ _ 121 (by rfl) _ _ (by rfl) (by rfl) HB ?_)
    go_wp2_with (at_builtin; refine wpList_clear_run _ rfl _ _ rfl _ rfl HC ?_)
    go_ret
    exact ⟨rfl, HF.out⟩
  · obtain rfl : c = n + 1 := by omega
    rw [show n + 1 - n = 1 by omega] at HC
    go_enter Tryz.func102, Tryz.ntmps102
    go_wp2_with fail
    go_region_held3 (fun _ => True) (trivial)
      (fail)
    go_wp2_with (at_builtin; refine wpList_clear_run _ rfl _ _ rfl _ rfl HC ?_)
    go_ret
    exact ⟨rfl, HF.out⟩


set_option maxRecDepth 100000 in
set_option maxHeartbeats 1000000 in
theorem cp_cut (w : World) (p : Nat) (v : Value) (n : Nat) (xs : List Value) (a : Addr) (k : Int) (h : Pk 2 w 123 82 p v (n + 1) (xs ++ pcc a k)) (hl : n < 100000) :
    Calls Tryz.prog 62 #[.pointer (some ⟨p, 0, none⟩), .int .i64 n] w fun e w' => e = .returned (.tuple #[pvc a k, .bool true]) ∧ Tk 2 w w' 123 82 p v n xs := by
  have hx : xs.length = n * 2 := by have := h.2.1.1; rw [List.length_append] at this; simp [pcc] at this; omega
  have H1 := fun W (kw : Kp [] w W) => cp_at_in W p v (n + 1) _ n a k (h.keep kw (by simp) (fun _ _ => by simp)) (by omega) (by rw [← hx, List.getElem?_append_right (by omega)]; simp [pcc]) (by rw [← hx, List.getElem?_append_right (by omega)]; simp [pcc]) (by omega)
  obtain ⟨ao, c, rfl, hc, hf, hnc, hpl, hcs⟩ := h.out
  obtain ⟨g, o, rfl, hgp, _⟩ := hcs (by omega)
  obtain ⟨hp, hown, hpb⟩ := h
  have hgl : g < w.heap.size := hown.lt g (by simp [blk])
  have H1' := H1 _ ((Kp.refl [] w).alloc (.cells #[.int .i64 0, .pointer none] 82))
  have HD : Hid (∀ W, Kp [] w W → Calls Tryz.prog 102 #[.slice (some ⟨g, o, none⟩) (n + 1) c, .int .i64 (n : Int), .int .i64 ((n : Int) + 1)] W fun e w' => e = .returned (.slice (some ⟨g, o, none⟩) n c) ∧ OwnK 2 w' 82 (.slice (some ⟨g, o, none⟩) n c) n xs ∧ Kp [g] W w') := fun W kw => cp_delete W g o n c xs _ (hown.keep kw (fun _ _ => by simp)) hx hl
  have HP : Hid (w.heap[p]? = some (.cells #[.slice (some ⟨g, o, none⟩) (n + 1) c] 123 (0, 0))) := hp
  clear H1 hcs hp hown hpb hx
  have i1 : (n : Int) < 100000 := by omega
  unfold pvc at H1' ⊢
  go_enter Tryz.func62, Tryz.ntmps62
  go_wp2_with fail
  refine H1'.mono ?_
  rintro e w2 ⟨rfl, K2⟩
  have K0 : Hid (Kp [] w w2) := ((Kp.refl [] w).alloc _).trans K2 (fun x hx => Or.inl hx)
  have R2 : Hid (w2.heap[w.heap.size]? = some (.cells #[.int .i64 0, .pointer none] 82 (0, 0))) := (K2.block _ (by simp) (by simp)).trans (heap_new w _)
  have hs2 : w.heap.size < w2.heap.size := (Array.getElem?_eq_some_iff.1 R2.out).1
  have c2 : w2.cell? ⟨p, 0, none⟩ = some (.slice (some ⟨g, o, none⟩) (n + 1) c) := (cell_of ((K0.out.block p hpl (by simp)).trans HP.out) 0)
  have hpl2 : p < w2.heap.size := by omega
  clear K2 H1'
  go_wp2_with fail
  refine (HD.out _ (K0.out.alloc _)).mono ?_
  rintro e w3 ⟨rfl, O3, K3⟩
  have P3 : w3.heap[p]? = some (.cells #[.slice (some ⟨g, o, none⟩) (n + 1) c] 123 (0, 0)) := (K3.block p (by simp; omega) (by simp; omega)).trans ((((K0.out.alloc _).block p hpl (by simp))).trans HP.out)
  have R3 : w3.heap[w.heap.size]? = some (.cells #[.int .i64 0, .pointer none] 82 (0, 0)) := (K3.block _ (by simp; omega) (by simp; omega)).trans ((((Kp.refl [] w2).alloc _).block _ hs2 (by simp)).trans R2.out)
  have X3 : w3.heap[w2.heap.size]? = some (.cells #[.int .i64 k, .pointer (some a)] 82 (0, 0)) := (K3.block _ (by simp) (by simp; omega)).trans (heap_new w2 _)
  have cp3 : w3.cell? ⟨p, 0, none⟩ = some (.slice (some ⟨g, o, none⟩) (n + 1) c) := cell_of P3 0
  have fp3 := frozen_of P3 0
  have cr0 : w3.cell? ⟨w.heap.size, 0, none⟩ = some (.int .i64 0) := cell_of R3 0
  have cr1 : w3.cell? ⟨w.heap.size, 1, none⟩ = some (.pointer none) := cell_of R3 1
  have fr0 := frozen_of R3 0
  have fr1 := frozen_of R3 1
  have cx0 : w3.cell? ⟨w2.heap.size, 0, none⟩ = some (.int .i64 k) := cell_of X3 0
  have cx1 : w3.cell? ⟨w2.heap.size, 1, none⟩ = some (.pointer (some a)) := cell_of X3 1
  have n1 : ¬ p = w.heap.size := by omega
  have n2 : ¬ p = w2.heap.size := by omega
  have n5 : ¬ w.heap.size = p := by omega
  have n6 : ¬ w2.heap.size = p := by omega
  have HF : Hid (Tk 2 w (((w3.setCell ⟨p, 0, none⟩ (.slice (some ⟨g, o, none⟩) n c)).setCell ⟨w.heap.size, 0, none⟩ (.int .i64 k)).setCell ⟨w.heap.size, 1, none⟩ (.pointer (some a))) 123 82 p (.slice (some ⟨g, o, none⟩) (n + 1) c) n xs) := by
    obtain ⟨v', h1, h2, h3⟩ := Tk.mk (K := 2) (w := w) hpl P3 (by simp [blk]; omega) O3 ((K0.out.alloc _).mono (T := p :: blk (.slice (some ⟨g, o, none⟩) (n + 1) c)) (fun x hx => by simp at hx) |>.trans K3 (fun x hx => by simp at hx; subst hx; exact Or.inl (by simp [blk]))) (fun x hx => Or.inl (by simpa [blk] using hx))
    have hv : ∀ x, x ∈ blk v' → x < w.heap.size := fun x hx => by
      rcases h3 x hx with h4 | h4
      · simp [blk] at h4; omega
      · have := h1.2.1.lt x hx
        rcases Nat.lt_or_ge x w.heap.size with h5 | h5
        · exact h5
        · exact absurd hx (by
            have e : v' = .slice (some ⟨g, o, none⟩) n c := by
              have := h1.1
              rw [setCell_block P3] at this
              simp at this
              exact this.symm
            rw [e]; simp [blk]; omega)
    refine ⟨v', (h1.keep (((Kp.refl [w.heap.size] _).setCell (Or.inl (by simp)) _).setCell (Or.inl (by simp)) _) (by simp; omega) (fun x hx => by have := hv x hx; simp; omega)), (h2.setCell (Or.inr (Nat.le_refl _)) _).setCell (Or.inr (Nat.le_refl _)) _, h3⟩
  clear O3 K3 P3 R3 X3 HD HP
  go_wp2
  refine bodyPost_ret (v := .tuple #[.agg #[.int .i64 k, .pointer (some a)], .bool true]) (by simp [results, go_sem, cr0, cr1]) rfl ⟨rfl, HF.out⟩

set_option maxRecDepth 100000 in
set_option maxHeartbeats 1000000 in
theorem cp_pop (w : World) (p : Nat) (v : Value) (n : Nat) (xs : List Value) (a : Addr) (k : Int) (h : Pk 2 w 123 82 p v (n + 1) (xs ++ pcc a k)) (hl : n < 100000) :
    Calls Tryz.prog 37 #[.pointer (some ⟨p, 0, none⟩)] w fun e w' => e = .returned (.tuple #[pvc a k, .bool true]) ∧ Tk 2 w w' 123 82 p v n xs := by
  have H1 := cp_cut _ p v n xs a k (h.keep ((Kp.refl [] w).alloc (.cells #[.int .i64 0, .pointer none] 82)) (by simp) (fun _ _ => by simp)) hl
  have hlt := h.2.1.lt
  obtain ⟨ao, c, rfl, hc, hf, hnc, hpl, hcs⟩ := h.out
  have HL : Hid (∀ x, x ∈ blk (.slice ao (n + 1) c) → x < w.heap.size) := hlt
  clear hcs h hlt
  have i1 : (n : Int) < 100000 := by omega
  unfold pvc at H1 ⊢
  go_enter Tryz.func37, Tryz.ntmps37
  go_wp2_with fail
  refine H1.mono ?_
  rintro e w2 ⟨rfl, v', T1, T2, T3⟩
  have hn : w.heap.size ∉ p :: blk (.slice ao (n + 1) c) := fun hx => by
    rcases List.mem_cons.1 hx with h1 | h1
    · omega
    · have := HL.out _ h1; omega
  have R2 : w2.heap[w.heap.size]? = some (.cells #[.int .i64 0, .pointer none] 82 (0, 0)) := (T2.block _ (by simp) hn).trans (heap_new w _)
  have cr0 : w2.cell? ⟨w.heap.size, 0, none⟩ = some (.int .i64 0) := cell_of R2 0
  have cr1 : w2.cell? ⟨w.heap.size, 1, none⟩ = some (.pointer none) := cell_of R2 1
  have fr0 := frozen_of R2 0
  have fr1 := frozen_of R2 1
  have HF : Hid (Tk 2 w ((w2.setCell ⟨w.heap.size, 0, none⟩ (.int .i64 k)).setCell ⟨w.heap.size, 1, none⟩ (.pointer (some a))) 123 82 p (.slice ao (n + 1) c) n xs) := by
    have hb : ∀ x, x ∈ blk v' → x ∈ blk (.slice ao (n + 1) c) ∨ w.heap.size + 1 ≤ x := fun x hx => by have := T3 x hx; simpa using this
    refine ⟨v', T1.keep (((Kp.refl [w.heap.size] _).setCell (Or.inl (by simp)) _).setCell (Or.inl (by simp)) _) (by simp; omega) (fun x hx => ?_), ((((Kp.refl _ w).alloc _).trans T2 (fun x hx => Or.inl hx)).setCell (Or.inr (Nat.le_refl _)) _).setCell (Or.inr (Nat.le_refl _)) _, fun x hx => ?_⟩
    · rcases hb x hx with h1 | h1
      · have := HL.out x h1; simp; omega
      · simp; omega
    · rcases hb x hx with h1 | h1
      · exact Or.inl h1
      · right; omega
  clear T1 T2 T3 R2 H1 hn
  go_wp2
  refine bodyPost_ret (v := .tuple #[.agg #[.int .i64 k, .pointer (some a)], .bool true]) (by simp [results, go_sem, cr0, cr1]) rfl ⟨rfl, HF.out⟩

set_option maxRecDepth 100000 in
set_option maxHeartbeats 1000000 in
theorem cp_cut_none (w : World) (p : Nat) (v : Value) (xs : List Value) (h : Pk 2 w 123 82 p v 0 xs) :
    Calls Tryz.prog 62 #[.pointer (some ⟨p, 0, none⟩), .int .i64 (-1)] w fun e w' => e = .returned (.tuple #[zpc, .bool false]) ∧ Kp [] w w' := by
  have H1 := cp_at_none _ p v xs (h.keep ((Kp.refl [] w).alloc (.cells #[.int .i64 0, .pointer none] 82)) (by simp) (fun _ _ => by simp))
  clear h
  unfold zpc at H1 ⊢
  go_enter Tryz.func62, Tryz.ntmps62
  go_wp2_with fail
  refine H1.mono ?_
  rintro e w2 ⟨rfl, K2⟩
  have R2 : w2.heap[w.heap.size]? = some (.cells #[.int .i64 0, .pointer none] 82 (0, 0)) := (K2.block _ (by simp) (by simp)).trans (heap_new w _)
  have hs2 : w.heap.size < w2.heap.size := (Array.getElem?_eq_some_iff.1 R2).1
  have cr0 : w2.cell? ⟨w.heap.size, 0, none⟩ = some (.int .i64 0) := cell_of R2 0
  have cr1 : w2.cell? ⟨w.heap.size, 1, none⟩ = some (.pointer none) := cell_of R2 1
  have fr0 := frozen_of R2 0
  have fr1 := frozen_of R2 1
  have K0 : Hid (Kp [] w w2) := ((Kp.refl [] w).alloc _).trans K2 (fun x hx => Or.inl hx)
  have R3 : (((w2.setCell ⟨w.heap.size, 0, none⟩ (.int .i64 0)).setCell ⟨w.heap.size, 1, none⟩ (.pointer none)).alloc (.cells #[.int .i64 0, .pointer none] 82)).heap[w.heap.size]? = some (.cells #[.int .i64 0, .pointer none] 82 (0, 0)) := by
    rw [Below.heap_alloc _ _ _ (by simp [World.setCell]; omega), setCell_block (setCell_block R2 _ _)]; rfl
  have D : Hid (_ ∧ _) := ⟨cell_of R3 0, cell_of R3 1⟩
  clear K2 R2 H1 R3
  go_wp2
  obtain ⟨d0, d1⟩ := D.out
  refine bodyPost_ret (v := .tuple #[.agg #[.int .i64 0, .pointer none], .bool false]) (by simp [results, go_sem, d0, d1]) rfl ⟨rfl, ?_⟩
  exact ((K0.out.setCell (Or.inr (Nat.le_refl _)) _).setCell (Or.inr (Nat.le_refl _)) _).alloc _

set_option maxRecDepth 100000 in
set_option maxHeartbeats 1000000 in
theorem cp_pop_none (w : World) (p : Nat) (v : Value) (xs : List Value) (h : Pk 2 w 123 82 p v 0 xs) :
    Calls Tryz.prog 37 #[.pointer (some ⟨p, 0, none⟩)] w fun e w' => e = .returned (.tuple #[zpc, .bool false]) ∧ Kp [] w w' := by
  have H1 := cp_cut_none _ p v xs (h.keep ((Kp.refl [] w).alloc (.cells #[.int .i64 0, .pointer none] 82)) (by simp) (fun _ _ => by simp))
  obtain ⟨ao, c, rfl, hc, hf, hnc, hpl, hcs⟩ := h.out
  clear h hcs
  unfold zpc at H1 ⊢
  go_enter Tryz.func37, Tryz.ntmps37
  go_wp2_with fail
  refine H1.mono ?_
  rintro e w2 ⟨rfl, K2⟩
  have R2 : w2.heap[w.heap.size]? = some (.cells #[.int .i64 0, .pointer none] 82 (0, 0)) := (K2.block _ (by simp) (by simp)).trans (heap_new w _)
  have cr0 : w2.cell? ⟨w.heap.size, 0, none⟩ = some (.int .i64 0) := cell_of R2 0
  have cr1 : w2.cell? ⟨w.heap.size, 1, none⟩ = some (.pointer none) := cell_of R2 1
  have fr0 := frozen_of R2 0
  have fr1 := frozen_of R2 1
  have K0 : Hid (Kp [] w w2) := ((Kp.refl [] w).alloc _).trans K2 (fun x hx => Or.inl hx)
  clear K2 R2 H1
  go_wp2
  refine bodyPost_ret (v := .tuple #[.agg #[.int .i64 0, .pointer none], .bool false]) (by simp [results, go_sem, cr0, cr1]) rfl ⟨rfl, ?_⟩
  exact (K0.out.setCell (Or.inr (Nat.le_refl _)) _).setCell (Or.inr (Nat.le_refl _)) _

end Go.Proofs.YtpkppobkagdhkaaGreat
