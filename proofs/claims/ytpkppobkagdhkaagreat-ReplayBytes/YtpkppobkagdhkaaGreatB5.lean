/-
 Lots.
-/
import Derived.Test.YtpkppobkagdhkaaGreatB4
set_option linter.unusedVariables false
set_option linter.unusedSimpArgs false
set_option maxRecDepth 100000
set_option maxHeartbeats 1000000
namespace Go.Proofs.YtpkppobkagdhkaaGreat
structure Ar where
 n : Nat
 lb : Nat → Lb
 kids : Nat → List Nat
 up : Nat → Option Nat
namespace Ar
def anc (a : Ar) : Nat → Nat → Option Nat
 | 0,x => some x
 | k + 1,x => (a.up x).bind (a.anc k)
def Wn (a : Ar) (x t : Nat) : Prop := ∃ k,a.anc k x = some t
theorem Wn.refl (a : Ar) (x : Nat) : a.Wn x x := ⟨0,rfl⟩
theorem Wn.step {a : Ar} {x p t : Nat} (h : a.up x = some p) (w : a.Wn p t) : a.Wn x t := by
 obtain ⟨k,e⟩ := w
 exact ⟨k + 1,by simp only [anc,h,Option.bind_some,e]⟩
theorem Wn.cases {a : Ar} {x t : Nat} (h : a.Wn x t) : x = t ∨ ∃ p,a.up x = some p ∧ a.Wn p t := by
 obtain ⟨k,e⟩ := h
 cases k with
 | zero => exact .inl (by simpa [anc] using e)
 | succ k =>
   refine .inr ?_
   cases hu : a.up x with
   | none => simp [anc,hu] at e
   | some p => exact ⟨p,rfl,k,by simpa [anc,hu] using e⟩
theorem Wn.none {a : Ar} {x t : Nat} (hu : a.up x = none) : a.Wn x t ↔ x = t := by
 refine ⟨fun h => ?_,fun h => h ▸ Wn.refl a x⟩
 rcases h.cases with h | ⟨p,h,_⟩
 ·exact h
 ·rw [hu] at h; cases h
theorem Wn.some {a : Ar} {x p t : Nat} (hu : a.up x = some p) : a.Wn x t ↔ x = t ∨ a.Wn p t := by
 refine ⟨fun h => ?_,fun h => ?_⟩
 ·rcases h.cases with h | ⟨q,h,w⟩
  ·exact .inl h
  ·rw [hu] at h; cases h; exact .inr w
 ·rcases h with h | h
  ·exact h ▸ Wn.refl a x
  ·exact Wn.step hu h
theorem Wn.trans {a : Ar} {x y z : Nat} (h : a.Wn x y) (g : a.Wn y z) : a.Wn x z := by
 obtain ⟨k,e⟩ := h
 induction k generalizing x with
 | zero =>
   obtain rfl : x = y := by simpa [anc] using e
   exact g
 | succ k ih =>
   cases hu : a.up x with
   | none => simp [anc,hu] at e
   | some p => exact Wn.step hu (ih (by simpa [anc,hu] using e))
structure Ok (a : Ar) : Prop where
 pos : 0 < a.n
 top : a.up 0 = none
 out : ∀ x,a.n ≤ x → a.kids x = [] ∧ a.up x = none
 link : ∀ p x,x ∈ a.kids p ↔ a.up x = some p
 one : ∀ p,(a.kids p).Nodup
 rank : ∃ r : Nat → Nat,∀ x p,a.up x = some p → r p < r x
theorem Ok.lt {a : Ar} (h : a.Ok) {p x : Nat} (e : a.up x = some p) : x < a.n ∧ p < a.n := by
 constructor
 ·refine Nat.lt_of_not_le fun hx => ?_
  rw [(h.out x hx).2] at e; cases e
 ·refine Nat.lt_of_not_le fun hp => ?_
  have := (h.link p x).2 e
  rw [(h.out p hp).1] at this; cases this
theorem Ok.kid_lt {a : Ar} (h : a.Ok) {p x : Nat} (e : x ∈ a.kids p) : x < a.n ∧ p < a.n := h.lt ((h.link p x).1 e)
theorem Ok.not_up {a : Ar} (h : a.Ok) {x p : Nat} (e : a.up x = some p) : ¬ a.Wn p x := by
 obtain ⟨r,hr⟩ := h.rank
 have key : ∀ k y z,a.anc k y = some z → r z ≤ r y := by
  intro k
  induction k with
  | zero => intro y z e; obtain rfl : y = z := by simpa [anc] using e
            exact Nat.le_refl _
  | succ k ih =>
    intro y z e
    cases hu : a.up y with
    | none => simp [anc,hu] at e
    | some q =>
      have h1 := ih q z (by simpa [anc,hu] using e)
      have h2 := hr y q hu
      omega
 rintro ⟨k,e2⟩
 have h1 := key k p x e2
 have h2 := hr x p e
 omega
def put (a : Ar) (p i x : Nat) : Ar :=
 { a with kids := fun y => if y = p then (a.kids p).take i ++ x :: (a.kids p).drop i else a.kids y,up := fun y => if y = x then some p else a.up y }
theorem Ok.put {a : Ar} (h : a.Ok) {p i x : Nat} (hp : p < a.n) (hx : x < a.n) (h0 : x ≠ 0) (hu : a.up x = none) (hw : ¬ a.Wn p x) : (a.put p i x).Ok := by
 have hn : ∀ q,x ∉ a.kids q := fun q hq => by rw [(h.link q x).1 hq] at hu; cases hu
 have hm : ∀ y,y ∈ (a.kids p).take i ++ x :: (a.kids p).drop i ↔ y = x ∨ y ∈ a.kids p := fun y => by
  rw [List.mem_append,List.mem_cons]
  have : y ∈ a.kids p ↔ y ∈ (a.kids p).take i ∨ y ∈ (a.kids p).drop i := by
   rw [← List.mem_append,List.take_append_drop]
  rw [this]
  constructor
  ·rintro (h | h | h)
   ·exact .inr (.inl h)
   ·exact .inl h
   ·exact .inr (.inr h)
  ·rintro (h | h | h)
   ·exact .inr (.inl h)
   ·exact .inl h
   ·exact .inr (.inr h)
 refine ⟨h.pos,?_,fun y hy => ⟨?_,?_⟩,fun q y => ?_,fun q => ?_,?_⟩
 ·show (if 0 = x then _ else _) = none
  rw [if_neg (fun e => h0 e.symm)]; exact h.top
 ·show (if y = p then _ else _) = _
  have : a.n ≤ y := hy
  rw [if_neg (by omega)]; exact (h.out y hy).1
 ·show (if y = x then _ else _) = none
  have : a.n ≤ y := hy
  rw [if_neg (by omega)]; exact (h.out y hy).2
 ·show y ∈ (if q = p then _ else _) ↔ (if y = x then _ else _) = some q
  by_cases hq : q = p
  ·subst hq
   rw [if_pos rfl,hm]
   by_cases hy : y = x
   ·rw [if_pos hy]; exact ⟨fun _ => rfl,fun _ => .inl hy⟩
   ·rw [if_neg hy,← h.link q y]
    exact ⟨fun h => h.resolve_left hy,.inr⟩
  ·rw [if_neg hq]
   by_cases hy : y = x
   ·subst hy
    rw [if_pos rfl]
    exact ⟨fun h => absurd h (hn q),fun e => absurd (Option.some.inj e).symm hq⟩
   ·rw [if_neg hy]; exact h.link q y
 ·show (if q = p then _ else _ : List Nat).Nodup
  by_cases hq : q = p
  ·rw [if_pos hq]
   have h1 := h.one p
   rw [← List.take_append_drop i (a.kids p),List.nodup_append] at h1
   rw [List.nodup_append,List.nodup_cons]
   refine ⟨h1.1,⟨fun e => hn p (List.mem_of_mem_drop e),h1.2.1⟩,fun y hy z hz => ?_⟩
   rcases List.mem_cons.1 hz with rfl | hz
   ·exact fun e => hn p (e ▸ List.mem_of_mem_take hy)
   ·exact h1.2.2 y hy z hz
  ·rw [if_neg hq]; exact h.one q
 ·obtain ⟨r,hr⟩ := h.rank
  classical
  refine ⟨fun y => if a.Wn y x then r y + r p + 1 else r y,fun y q e => ?_⟩
  replace e : (if y = x then some p else a.up y) = some q := e
  by_cases hy : y = x
  ·subst hy
   rw [if_pos rfl] at e
   obtain rfl := Option.some.inj e
   simp only [if_neg hw,if_pos (Wn.refl a y)]
   omega
  ·rw [if_neg hy] at e
   have h1 := hr y q e
   have h2 : a.Wn y x ↔ a.Wn q x := (Wn.some e).trans ⟨fun h => h.resolve_left hy,.inr⟩
   simp only [h2]
   split <;> omega
def cut (a : Ar) (x : Nat) : Ar :=
 { a with kids := fun y => if a.up x = some y then (a.kids y).erase x else a.kids y,up := fun y => if y = x then none else a.up y }
theorem Ok.cut {a : Ar} (h : a.Ok) (x : Nat) : (a.cut x).Ok := by
 refine ⟨h.pos,?_,fun y hy => ⟨?_,?_⟩,fun q y => ?_,fun q => ?_,?_⟩
 ·show (if 0 = x then _ else _) = none
  split
  ·rfl
  ·exact h.top
 ·show (if a.up x = some y then _ else _) = _
  rw [(h.out y hy).1]; split <;> rfl
 ·show (if y = x then _ else _) = none
  split
  ·rfl
  ·exact (h.out y hy).2
 ·show y ∈ (if a.up x = some q then _ else _) ↔ (if y = x then _ else _) = some q
  by_cases hy : y = x
  ·subst hy
   rw [if_pos rfl]
   refine ⟨fun e => ?_,fun e => by cases e⟩
   split at e
   ·exact absurd e (h.one q).not_mem_erase
   ·rename_i hne; exact absurd ((h.link q y).1 e) hne
  ·rw [if_neg hy,← h.link q y]
   split
   ·exact List.mem_erase_of_ne hy
   ·exact Iff.rfl
 ·show (if a.up x = some q then _ else _ : List Nat).Nodup
  split
  ·exact (h.one q).erase x
  ·exact h.one q
 ·obtain ⟨r,hr⟩ := h.rank
  refine ⟨r,fun y q e => ?_⟩
  replace e : (if y = x then none else a.up y) = some q := e
  by_cases hy : y = x
  ·rw [if_pos hy] at e; cases e
  ·rw [if_neg hy] at e; exact hr y q e
theorem cut_wn {a : Ar} {x y t : Nat} (h : (a.cut x).Wn y t) : a.Wn y t := by
 obtain ⟨k,e⟩ := h
 induction k generalizing y with
 | zero => exact ⟨0,e⟩
 | succ k ih =>
   by_cases hy : y = x
   ·subst hy
    have : (a.cut y).up y = Option.none := by show (if y = y then _ else _) = Option.none; rw [if_pos rfl]
    simp [anc,this] at e
   ·have hu : (a.cut x).up y = a.up y := by show (if y = x then _ else _) = _; rw [if_neg hy]
    cases hq : a.up y with
    | none => simp [anc,hu,hq] at e
    | some q => exact Wn.step hq (ih (by simpa [anc,hu,hq] using e))
def new (a : Ar) (l : Lb) : Ar := { a with n := a.n + 1,lb := fun y => if y = a.n then l else a.lb y }
theorem Ok.new {a : Ar} (h : a.Ok) (l : Lb) : (a.new l).Ok :=
 ⟨Nat.succ_pos _,h.top,fun y hy => h.out y (by have : a.n + 1 ≤ y := hy; omega),h.link,h.one,h.rank⟩
def tell (a : Ar) (x : Nat) (l : Lb) : Ar := { a with lb := fun y => if y = x then l else a.lb y }
theorem Ok.tell {a : Ar} (h : a.Ok) (x : Nat) (l : Lb) : (a.tell x l).Ok := ⟨h.pos,h.top,h.out,h.link,h.one,h.rank⟩
def first : Ar := ⟨1,fun _ => (1,0,⟨#[]⟩,[],⟨#[]⟩),fun _ => [],fun _ => none⟩
theorem first_ok : first.Ok := ⟨Nat.one_pos,rfl,fun _ _ => ⟨rfl,rfl⟩,fun _ _ => ⟨(fun h => by cases h),(fun h => by cases h)⟩,fun _ => List.nodup_nil,⟨fun _ => 0,fun _ _ h => by cases h⟩⟩
theorem pig : ∀ (n : Nat) (l : List Nat),l.Nodup → (∀ x ∈ l,x < n) → l.length ≤ n
 | 0,l,_,hl => by
   cases l with
   | nil => exact Nat.le_refl _
   | cons x xs => exact absurd (hl x (List.mem_cons_self ..)) (Nat.not_lt_zero _)
 | n + 1,l,hn,hl => by
   have h1 := pig n (l.erase n) (hn.erase n) (fun x hx => by
    have h2 := hl x (List.mem_of_mem_erase hx)
    have h3 : x ≠ n := fun e => hn.not_mem_erase (e ▸ hx)
    omega)
   have h2 := List.length_erase (a := n) (l := l)
   split at h2 <;> omega
theorem Ok.anc_lt {a : Ar} (h : a.Ok) : ∀ {k x y : Nat},x < a.n → a.anc k x = some y → k < a.n := by
 have key : ∀ (k x y : Nat),x < a.n → a.anc k x = some y → ∃ l : List Nat,l.length = k + 1 ∧ l.Nodup ∧ (∀ z ∈ l,z < a.n ∧ a.Wn x z) := by
  intro k
  induction k with
  | zero => exact fun x y hx _ => ⟨[x],rfl,by simp,fun z hz => by rw [List.mem_singleton.1 hz]; exact ⟨hx,Wn.refl a x⟩⟩
  | succ k ih =>
    intro x y hx e
    cases hu : a.up x with
    | none => simp [anc,hu] at e
    | some q =>
      obtain ⟨l,h1,h2,h3⟩ := ih q y (h.lt hu).2 (by simpa [anc,hu] using e)
      refine ⟨x :: l,by simp [h1],List.nodup_cons.2 ⟨fun hm => h.not_up hu (h3 x hm).2,h2⟩,fun z hz => ?_⟩
      rcases List.mem_cons.1 hz with rfl | hz
      ·exact ⟨hx,Wn.refl a z⟩
      ·exact ⟨(h3 z hz).1,Wn.step hu (h3 z hz).2⟩
 intro k x y hx e
 obtain ⟨l,h1,h2,h3⟩ := key k x y hx e
 have := pig a.n l h2 (fun z hz => (h3 z hz).1)
 omega
def tr (a : Ar) : Nat → Nat → Fo → Fo
 | 0,x,r => .cons (a.lb x) .nil r
 | f + 1,x,r => .cons (a.lb x) ((a.kids x).foldr (a.tr f) .nil) r
def below (a : Ar) (x : Nat) : Fo := (a.kids x).foldr (a.tr a.n) .nil
theorem foldr_eq {f g : Nat → Fo → Fo} {l : List Nat} (h : ∀ x ∈ l,∀ r,f x r = g x r) : l.foldr f .nil = l.foldr g .nil := by
 induction l with
 | nil => rfl
 | cons x xs ih =>
   rw [List.foldr_cons,List.foldr_cons,ih (fun y hy => h y (List.mem_cons_of_mem _ hy)),h x (List.mem_cons_self ..)]
theorem Ok.tr_fuel {a : Ar} (h : a.Ok) : ∀ (f g k x : Nat) (y : Nat),x < a.n → a.anc k x = some y → a.n ≤ f + k → a.n ≤ g + k → ∀ r,a.tr f x r = a.tr g x r
 | 0,g,k,x,y,hx,e,hf,hg,r => absurd (h.anc_lt hx e) (by omega)
 | f + 1,0,k,x,y,hx,e,hf,hg,r => absurd (h.anc_lt hx e) (by omega)
 | f + 1,g + 1,k,x,y,hx,e,hf,hg,r => by
   unfold tr
   rw [foldr_eq (f := a.tr f) (g := a.tr g) (fun c hc r => ?_)]
   have hu := (h.link x c).1 hc
   exact h.tr_fuel f g (k + 1) c y (h.lt hu).1 (by simp only [anc,hu,Option.bind_some,e]) (by omega) (by omega) r
theorem Ok.tr_below {a : Ar} (h : a.Ok) {x : Nat} (hx : x < a.n) (r : Fo) : a.tr a.n x r = .cons (a.lb x) (a.below x) r := by
 rw [h.tr_fuel a.n (a.n + 1) 0 x x hx rfl (by omega) (by omega)]
 rfl
theorem Ok.below_kids {a : Ar} (h : a.Ok) (x : Nat) : a.below x = (a.kids x).foldr (fun c r => .cons (a.lb c) (a.below c) r) .nil := by
 unfold below
 exact foldr_eq (fun c hc r => h.tr_below (h.kid_lt hc).1 r)
end Ar
end Go.Proofs.YtpkppobkagdhkaaGreat
