/-
  Joined: Chain.
-/
import Derived.Test.YtpkppobkagdhkaaJ14

/-
  Kids as a chain: each node with its parent, its first and last kid, and those right ahead of it and behind it: no program.
-/
namespace Go.Proofs.Ytpkppobkagdhkaa
set_option linter.unusedVariables false
set_option linter.unusedSimpArgs false

/-- The first of some numbers, -1 of none. -/
def hdI : List Nat → Int
  | [] => -1
  | x :: _ => x
/-- The last of some numbers, p of none. -/
def laG (p : Int) : List Nat → Int
  | [] => p
  | y :: r => laG y r
def laI (k : List Nat) : Int := laG (-1) k
/-- The one right ahead of x, p ahead of the first. -/
def befG (p : Int) : List Nat → Nat → Int
  | [], _ => -1
  | y :: r, x => if y = x then p else befG y r x
def bef (k : List Nat) (x : Nat) : Int := befG (-1) k x
/-- The one right behind x. -/
def aft : List Nat → Nat → Int
  | [], _ => -1
  | y :: r, x => if y = x then hdI r else aft r x

theorem hdI_neg {k : List Nat} : hdI k = -1 ↔ k = [] := by
  cases k with
  | nil => exact ⟨fun _ => rfl, fun _ => rfl⟩
  | cons x r => exact ⟨fun h => by have : (x : Int) = -1 := h; omega, fun h => by cases h⟩
theorem laG_nat (p : Nat) : ∀ k : List Nat, ∃ z : Nat, laG p k = z ∧ z ∈ p :: k
  | [] => ⟨p, rfl, by simp⟩
  | y :: r => by
    obtain ⟨z, h1, h2⟩ := laG_nat y r
    exact ⟨z, h1, List.mem_cons_of_mem _ h2⟩
theorem laI_cons (y : Nat) (r : List Nat) : ∃ z : Nat, laI (y :: r) = z ∧ z ∈ y :: r := laG_nat y r
theorem laI_neg {k : List Nat} : laI k = -1 ↔ k = [] := by
  cases k with
  | nil => exact ⟨fun _ => rfl, fun _ => rfl⟩
  | cons x r =>
    obtain ⟨z, h1, _⟩ := laI_cons x r
    exact ⟨fun h => by omega, fun h => by cases h⟩
theorem laG_app (p : Int) : ∀ (k : List Nat) (x : Nat) (r : List Nat), laG p (k ++ x :: r) = laG x r
  | [], _, _ => rfl
  | y :: k, x, r => laG_app y k x r
theorem laI_app (k : List Nat) (x : Nat) (r : List Nat) : laI (k ++ x :: r) = laI (x :: r) := laG_app _ k x r
theorem laI_mem {k : List Nat} {y : Nat} (h : laI k = y) : y ∈ k := by
  cases k with
  | nil => have : (-1 : Int) = y := h; omega
  | cons x r =>
    obtain ⟨z, h1, h2⟩ := laI_cons x r
    have : z = y := by omega
    exact this ▸ h2
theorem hdI_mem {k : List Nat} {y : Nat} (h : hdI k = y) : y ∈ k := by
  cases k with
  | nil => have : (-1 : Int) = y := h; omega
  | cons x r => have : (x : Int) = y := h; have : x = y := by omega
                simp [this]

theorem befG_at (p : Int) : ∀ (k1 : List Nat) (x : Nat) (k2 : List Nat), x ∉ k1 → befG p (k1 ++ x :: k2) x = laG p k1
  | [], x, k2, _ => by simp [befG, laG]
  | y :: r, x, k2, h => by
    have h1 : y ≠ x := fun e => h (by simp [e])
    simp only [List.cons_append, befG, if_neg h1, laG]
    exact befG_at y r x k2 (fun hm => h (List.mem_cons_of_mem _ hm))
theorem bef_at {k1 : List Nat} {x : Nat} {k2 : List Nat} (h : x ∉ k1) : bef (k1 ++ x :: k2) x = laI k1 := befG_at _ k1 x k2 h

theorem befG_put (p : Int) : ∀ (k1 k2 : List Nat) (x y : Nat), y ≠ x → (k1 ++ k2).Nodup → befG p (k1 ++ x :: k2) y = if hdI k2 = (y : Int) then (x : Int) else befG p (k1 ++ k2) y
  | [], k2, x, y, h, hn => by
    simp only [List.nil_append, befG, if_neg (Ne.symm h)]
    cases k2 with
    | nil => rw [if_neg (show ¬ hdI [] = (y : Int) by show ¬ (-1 : Int) = y; omega)]; rfl
    | cons z r =>
      show (if z = y then (x : Int) else befG z r y) = if (z : Int) = y then (x : Int) else (if z = y then p else befG z r y)
      by_cases e : z = y
      · rw [if_pos e, if_pos (by omega)]
      · rw [if_neg e, if_neg (by omega), if_neg e]
  | z :: r, k2, x, y, h, hn => by
    simp only [List.cons_append, befG]
    have hn' := List.nodup_cons.1 hn
    by_cases e : z = y
    · rw [if_pos e, if_pos e, if_neg (fun e2 => hn'.1 (by rw [e]; exact List.mem_append_right _ (hdI_mem e2)))]
    · rw [if_neg e, if_neg e]
      exact befG_put z r k2 x y h hn'.2
theorem bef_put {k1 k2 : List Nat} {x y : Nat} (h : y ≠ x) (hn : (k1 ++ k2).Nodup) : bef (k1 ++ x :: k2) y = if hdI k2 = (y : Int) then (x : Int) else bef (k1 ++ k2) y := befG_put _ k1 k2 x y h hn

theorem aft_at : ∀ {k1 : List Nat} {x : Nat} {k2 : List Nat}, x ∉ k1 → aft (k1 ++ x :: k2) x = hdI k2
  | [], x, k2, _ => by simp [aft]
  | y :: r, x, k2, h => by
    have h1 : y ≠ x := fun e => h (by simp [e])
    simp only [List.cons_append, aft, if_neg h1]
    exact aft_at (fun hm => h (List.mem_cons_of_mem _ hm))
theorem aft_put : ∀ {k1 k2 : List Nat} {x y : Nat}, y ≠ x → (k1 ++ k2).Nodup → aft (k1 ++ x :: k2) y = if laI k1 = (y : Int) then (x : Int) else aft (k1 ++ k2) y
  | [], k2, x, y, h, hn => by
    rw [if_neg (show ¬ laI [] = (y : Int) by show ¬ (-1 : Int) = y; omega)]
    simp only [List.nil_append, aft, if_neg (Ne.symm h)]
  | [z], k2, x, y, h, hn => by
    simp only [List.cons_append, List.nil_append, aft, if_neg (Ne.symm h), hdI]
    have e0 : laI [z] = (z : Int) := rfl
    rw [e0]
    by_cases e : z = y
    · rw [if_pos e, if_pos (by omega)]
    · rw [if_neg e, if_neg (by omega), if_neg e]
  | z :: z2 :: r, k2, x, y, h, hn => by
    have hn' := List.nodup_cons.1 hn
    have e0 : laI (z :: z2 :: r) = laI (z2 :: r) := rfl
    have ih := aft_put (k1 := z2 :: r) (k2 := k2) h hn'.2
    rw [e0]
    show (if z = y then hdI (z2 :: r ++ x :: k2) else aft (z2 :: r ++ x :: k2) y) = if _ then _ else (if z = y then hdI (z2 :: r ++ k2) else aft (z2 :: r ++ k2) y)
    by_cases e : z = y
    · rw [if_pos e, if_pos e, if_neg (fun e2 => hn'.1 (by rw [e]; exact List.mem_append_left _ (laI_mem e2)))]
      rfl
    · rw [if_neg e, if_neg e]; exact ih

theorem hdI_put (k1 k2 : List Nat) (x : Nat) : hdI (k1 ++ x :: k2) = if laI k1 = -1 then (x : Int) else hdI (k1 ++ k2) := by
  cases k1 with
  | nil => rfl
  | cons y r => rw [if_neg (fun e => by have := laI_neg.1 e; cases this)]; rfl
theorem laI_put (k1 k2 : List Nat) (x : Nat) : laI (k1 ++ x :: k2) = if hdI k2 = -1 then (x : Int) else laI (k1 ++ k2) := by
  cases k2 with
  | nil => rw [laI_app]; rfl
  | cons y r =>
    rw [if_neg (fun e => by have := hdI_neg.1 e; cases this), laI_app, laI_app]; rfl

theorem hdI_nil : hdI [] = -1 := rfl
theorem laI_nil : laI [] = -1 := rfl
theorem laI_split {k : List Nat} {z : Nat} (h : laI k = (z : Int)) : ∃ k3, k = k3 ++ [z] := by
  rcases List.eq_nil_or_concat k with rfl | ⟨L, b, rfl⟩
  · rw [laI_nil] at h; omega
  · rw [List.concat_eq_append, laI_app] at h
    have : (b : Int) = z := h
    obtain rfl : b = z := by omega
    exact ⟨L, by simp⟩
theorem aft_last {k1 k2 : List Nat} {z : Nat} (h : laI k1 = (z : Int)) (hn : (k1 ++ k2).Nodup) : aft (k1 ++ k2) z = hdI k2 := by
  obtain ⟨k3, rfl⟩ := laI_split h
  rw [List.append_assoc, List.singleton_append]
  refine aft_at (fun hm => ?_)
  rw [List.append_assoc, List.nodup_append] at hn
  exact hn.2.2 z hm z (by simp) rfl

/-- A node of the list: what it has by itself; its parent, first kid, last kid, the one ahead of it, the one behind it. -/
structure Pn where
  lb : Lb
  up : Int
  fi : Int
  la : Int
  ah : Int
  be : Int

theorem Pn.eq {x y : Pn} (h1 : x.lb = y.lb) (h2 : x.up = y.up) (h3 : x.fi = y.fi) (h4 : x.la = y.la) (h5 : x.ah = y.ah) (h6 : x.be = y.be) : x = y := by
  cases x; cases y; simp only at h1 h2 h3 h4 h5 h6; subst h1 h2 h3 h4 h5 h6; rfl

def sUp (N : Nat → Pn) (x : Nat) (v : Int) : Nat → Pn := fun i => if i = x then ⟨(N x).lb, v, (N x).fi, (N x).la, (N x).ah, (N x).be⟩ else N i
def sFi (N : Nat → Pn) (x : Nat) (v : Int) : Nat → Pn := fun i => if i = x then ⟨(N x).lb, (N x).up, v, (N x).la, (N x).ah, (N x).be⟩ else N i
def sLa (N : Nat → Pn) (x : Nat) (v : Int) : Nat → Pn := fun i => if i = x then ⟨(N x).lb, (N x).up, (N x).fi, v, (N x).ah, (N x).be⟩ else N i
def sAh (N : Nat → Pn) (x : Nat) (v : Int) : Nat → Pn := fun i => if i = x then ⟨(N x).lb, (N x).up, (N x).fi, (N x).la, v, (N x).be⟩ else N i
def sBe (N : Nat → Pn) (x : Nat) (v : Int) : Nat → Pn := fun i => if i = x then ⟨(N x).lb, (N x).up, (N x).fi, (N x).la, (N x).ah, v⟩ else N i
def sLb (N : Nat → Pn) (x : Nat) (v : Lb) : Nat → Pn := fun i => if i = x then ⟨v, (N x).up, (N x).fi, (N x).la, (N x).ah, (N x).be⟩ else N i

/-- One kid right ahead of another. -/
def joinA (N : Nat → Pn) (p : Nat) (a b : Int) : Nat → Pn := if a = -1 then sFi N p b else sBe N a.toNat b
def joinB (N : Nat → Pn) (p : Nat) (a b : Int) : Nat → Pn := if b = -1 then sLa N p a else sAh N b.toNat a
def joinF (N : Nat → Pn) (p : Nat) (a b : Int) : Nat → Pn := joinB (joinA N p a b) p a b

def aheadF (N : Nat → Pn) (p : Nat) (r : Int) : Int := if r = -1 then (N p).la else (N r.toNat).ah
def linkF (N : Nat → Pn) (p : Nat) (r : Int) (x : Nat) : Nat → Pn := joinF (joinF (sUp N x p) p (aheadF N p r) x) p x r
def unlinkF (N : Nat → Pn) (p x : Nat) : Nat → Pn := sBe (sAh (sUp (joinF N p (N x).ah (N x).be) x (-1)) x (-1)) x (-1)

theorem joinF_lb (N : Nat → Pn) (p : Nat) (a b : Int) (y : Nat) : (joinF N p a b y).lb = (N y).lb := by
  unfold joinF joinB joinA sFi sBe sLa sAh
  by_cases h1 : a = -1 <;> by_cases h2 : b = -1 <;> simp only [h1, h2, if_true, if_false] <;> (repeat' split) <;> simp_all
theorem joinF_up (N : Nat → Pn) (p : Nat) (a b : Int) (y : Nat) : (joinF N p a b y).up = (N y).up := by
  unfold joinF joinB joinA sFi sBe sLa sAh
  by_cases h1 : a = -1 <;> by_cases h2 : b = -1 <;> simp only [h1, h2, if_true, if_false] <;> (repeat' split) <;> simp_all
theorem joinF_fi (N : Nat → Pn) (p : Nat) (a b : Int) (y : Nat) : (joinF N p a b y).fi = if a = -1 ∧ y = p then b else (N y).fi := by
  unfold joinF joinB joinA sFi sBe sLa sAh
  by_cases h1 : a = -1 <;> by_cases h2 : b = -1 <;> simp only [h1, h2, if_true, if_false, true_and, false_and] <;> (repeat' split) <;> simp_all
theorem joinF_la (N : Nat → Pn) (p : Nat) (a b : Int) (y : Nat) : (joinF N p a b y).la = if b = -1 ∧ y = p then a else (N y).la := by
  unfold joinF joinB joinA sFi sBe sLa sAh
  by_cases h1 : a = -1 <;> by_cases h2 : b = -1 <;> simp only [h1, h2, if_true, if_false, true_and, false_and] <;> (repeat' split) <;> simp_all
theorem joinF_be (N : Nat → Pn) (p : Nat) (a b : Int) (y : Nat) : (joinF N p a b y).be = if a ≠ -1 ∧ y = a.toNat then b else (N y).be := by
  unfold joinF joinB joinA sFi sBe sLa sAh
  by_cases h1 : a = -1 <;> by_cases h2 : b = -1 <;> simp only [h1, h2, if_true, if_false, true_and, false_and, ne_eq, not_true, not_false_iff] <;> (repeat' split) <;> simp_all
theorem joinF_ah (N : Nat → Pn) (p : Nat) (a b : Int) (y : Nat) : (joinF N p a b y).ah = if b ≠ -1 ∧ y = b.toNat then a else (N y).ah := by
  unfold joinF joinB joinA sFi sBe sLa sAh
  by_cases h1 : a = -1 <;> by_cases h2 : b = -1 <;> simp only [h1, h2, if_true, if_false, true_and, false_and, ne_eq, not_true, not_false_iff] <;> (repeat' split) <;> simp_all

namespace Ar

def upI : Option Nat → Int
  | none => -1
  | some p => p

/-- The chain of an arena. -/
def raw (a : Ar) (y : Nat) : Pn :=
  ⟨a.lb y, upI (a.up y), hdI (a.kids y), laI (a.kids y), (match a.up y with | none => -1 | some p => bef (a.kids p) y), (match a.up y with | none => -1 | some p => aft (a.kids p) y)⟩

theorem raw_ah {a : Ar} {y p : Nat} (h : a.up y = some p) : (a.raw y).ah = bef (a.kids p) y := by simp only [raw, h]
theorem raw_be {a : Ar} {y p : Nat} (h : a.up y = some p) : (a.raw y).be = aft (a.kids p) y := by simp only [raw, h]
theorem raw_ah_none {a : Ar} {y : Nat} (h : a.up y = none) : (a.raw y).ah = -1 := by simp only [raw, h]
theorem raw_be_none {a : Ar} {y : Nat} (h : a.up y = none) : (a.raw y).be = -1 := by simp only [raw, h]

theorem Ok.split {a : Ar} (h : a.Ok) {p y : Nat} (hu : a.up y = some p) : ∃ k1 k2, a.kids p = k1 ++ y :: k2 ∧ y ∉ k1 ∧ y ∉ k2 ∧ (k1 ++ k2).Nodup := by
  obtain ⟨k1, k2, e⟩ := List.append_of_mem ((h.link p y).2 hu)
  have hn := h.one p
  rw [e, List.nodup_append, List.nodup_cons] at hn
  exact ⟨k1, k2, e, fun hm => hn.2.2 y hm y (by simp) rfl, hn.2.1.1, List.nodup_append.2 ⟨hn.1, hn.2.1.2, fun x hx z hz => hn.2.2 x hx z (List.mem_cons_of_mem _ hz)⟩⟩

/-- What link does. -/
theorem Ok.link_raw {a : Ar} (h : a.Ok) {p x : Nat} {k1 k2 : List Nat} (e : a.kids p = k1 ++ k2) (hu : a.up x = none) : linkF a.raw p (hdI k2) x = (a.put p k1.length x).raw := by
  have hn := h.one p
  rw [e] at hn
  have hx : ∀ q, x ∉ a.kids q := fun q hq => by rw [(h.link q x).1 hq] at hu; cases hu
  have hxk := hx p
  rw [e, List.mem_append] at hxk
  have hka : ∀ y, y ∈ k1 ∨ y ∈ k2 → a.up y = some p := fun y hy => (h.link p y).1 (by rw [e]; exact List.mem_append.2 hy)
  have hah : aheadF a.raw p (hdI k2) = laI k1 := by
    unfold aheadF
    cases k2 with
    | nil => rw [hdI_nil, if_pos rfl]; show laI (a.kids p) = _; rw [e, List.append_nil]
    | cons r k2 =>
      rw [if_neg (fun e => by have := hdI_neg.1 e; cases this)]
      show (a.raw ((r : Int).toNat)).ah = _
      rw [Int.toNat_natCast, raw_ah (hka r (.inr (by simp))), e]
      exact bef_at (fun hm => by rw [List.nodup_append] at hn; exact hn.2.2 r hm r (by simp) rfl)
  have hkp : ∀ y, (a.put p k1.length x).kids y = if y = p then k1 ++ x :: k2 else a.kids y := fun y => by
    show (if y = p then (a.kids p).take k1.length ++ x :: (a.kids p).drop k1.length else a.kids y) = _
    rw [e, List.take_left, List.drop_left]
  have hup : ∀ y, (a.put p k1.length x).up y = if y = x then some p else a.up y := fun y => rfl
  have hx1 : ¬ ((x : Int) = -1) := by omega
  funext y
  unfold linkF
  rw [hah]
  refine Pn.eq ?_ ?_ ?_ ?_ ?_ ?_
  · rw [joinF_lb, joinF_lb]; unfold sUp
    show ((if y = x then _ else _ : Pn)).lb = a.lb y
    split
    · rename_i e; rw [e]; rfl
    · rfl
  · rw [joinF_up, joinF_up]
    show ((if y = x then _ else _ : Pn)).up = upI ((a.put p k1.length x).up y)
    rw [hup]
    split <;> rfl
  · rw [joinF_fi, joinF_fi, if_neg (fun hh => hx1 hh.1)]
    show _ = hdI ((a.put p k1.length x).kids y)
    rw [hkp]
    have e0 : (sUp a.raw x p y).fi = hdI (a.kids y) := by unfold sUp; split <;> rename_i e <;> simp only [raw, e]
    rw [e0]
    by_cases hy : y = p
    · simp only [hy, and_true, if_pos]
      rw [hdI_put, e]
    · rw [if_neg (fun hh => hy hh.2), if_neg hy]
  · rw [joinF_la, joinF_la, if_neg (c := (x : Int) = -1 ∧ y = p) (fun hh => hx1 hh.1)]
    show _ = laI ((a.put p k1.length x).kids y)
    rw [hkp]
    have e0 : (sUp a.raw x p y).la = laI (a.kids y) := by unfold sUp; split <;> rename_i e <;> simp only [raw, e]
    rw [e0]
    by_cases hy : y = p
    · simp only [hy, and_true, if_pos]
      rw [laI_put, e]
    · rw [if_neg (fun hh => hy hh.2), if_neg hy]
  · rw [joinF_ah, joinF_ah]
    have e0 : (sUp a.raw x p y).ah = (a.raw y).ah := by unfold sUp; split <;> rename_i e <;> simp only [e]
    rw [e0]
    by_cases hy : y = x
    · have h2 : ¬ (hdI k2 ≠ -1 ∧ y = (hdI k2).toNat) := fun hh => by
        cases k2 with
        | nil => exact hh.1 rfl
        | cons r k2 => exact hxk (.inr (by have := hh.2; rw [show hdI (r :: k2) = (r : Int) from rfl, Int.toNat_natCast, hy] at this; simp [this]))
      rw [if_neg h2, if_pos ⟨hx1, by rw [Int.toNat_natCast]; exact hy⟩]
      rw [raw_ah (p := p) (by rw [hup, if_pos hy]), hkp, if_pos rfl, hy, bef_at (fun hm => hxk (.inl hm))]
    · rw [if_neg (c := (x : Int) ≠ -1 ∧ y = (x : Int).toNat) (fun hh => hy (by have := hh.2; rwa [Int.toNat_natCast] at this))]
      cases hq : a.up y with
      | none =>
        rw [raw_ah_none hq, raw_ah_none (by rw [hup, if_neg hy]; exact hq), if_neg]
        rintro ⟨h1, h2⟩
        cases k2 with
        | nil => exact h1 rfl
        | cons r k2 =>
          rw [show hdI (r :: k2) = (r : Int) from rfl, Int.toNat_natCast] at h2
          have := hka r (.inr (by simp))
          rw [← h2, hq] at this; cases this
      | some q =>
        rw [raw_ah hq, raw_ah (p := q) (by rw [hup, if_neg hy]; exact hq), hkp]
        by_cases hqp : q = p
        · subst hqp
          rw [if_pos rfl, bef_put hy hn, e]
          cases k2 with
          | nil => rw [if_neg (fun hh => hh.1 rfl), hdI_nil, if_neg (show ¬ (-1 : Int) = y by omega)]
          | cons r k2 =>
            rw [show hdI (r :: k2) = (r : Int) from rfl, Int.toNat_natCast]
            by_cases hr : y = r
            · rw [if_pos ⟨by omega, hr⟩, if_pos (by omega)]
            · rw [if_neg (fun hh => hr hh.2), if_neg (by omega)]
        · rw [if_neg hqp, if_neg]
          rintro ⟨h1, h2⟩
          cases k2 with
          | nil => exact h1 rfl
          | cons r k2 =>
            rw [show hdI (r :: k2) = (r : Int) from rfl, Int.toNat_natCast] at h2
            have := hka r (.inr (by simp))
            rw [← h2, hq] at this; exact hqp (Option.some.inj this)
  · rw [joinF_be, joinF_be]
    have e0 : (sUp a.raw x p y).be = (a.raw y).be := by unfold sUp; split <;> rename_i e <;> simp only [e]
    rw [e0]
    by_cases hy : y = x
    · rw [if_pos ⟨hx1, by rw [Int.toNat_natCast]; exact hy⟩]
      rw [raw_be (p := p) (by rw [hup, if_pos hy]), hkp, if_pos rfl, hy, aft_at (fun hm => hxk (.inl hm))]
    · rw [if_neg (c := (x : Int) ≠ -1 ∧ y = (x : Int).toNat) (fun hh => hy (by have := hh.2; rwa [Int.toNat_natCast] at this))]
      cases hq : a.up y with
      | none =>
        rw [raw_be_none hq, raw_be_none (by rw [hup, if_neg hy]; exact hq), if_neg]
        rintro ⟨h1, h2⟩
        cases k1 with
        | nil => exact h1 rfl
        | cons r k1 =>
          obtain ⟨z, e1, e2⟩ := laI_cons r k1
          rw [e1, Int.toNat_natCast] at h2
          have := hka z (.inl e2)
          rw [← h2, hq] at this; cases this
      | some q =>
        rw [raw_be hq, raw_be (p := q) (by rw [hup, if_neg hy]; exact hq), hkp]
        by_cases hqp : q = p
        · subst hqp
          rw [if_pos rfl, aft_put hy hn, e]
          cases k1 with
          | nil => rw [if_neg (fun hh => hh.1 rfl), laI_nil, if_neg (show ¬ (-1 : Int) = y by omega)]
          | cons r k1 =>
            obtain ⟨z, e1, e2⟩ := laI_cons r k1
            rw [e1, Int.toNat_natCast]
            by_cases hr : y = z
            · rw [if_pos ⟨by omega, hr⟩, if_pos (by omega)]
            · rw [if_neg (fun hh => hr hh.2), if_neg (by omega)]
        · rw [if_neg hqp, if_neg]
          rintro ⟨h1, h2⟩
          cases k1 with
          | nil => exact h1 rfl
          | cons r k1 =>
            obtain ⟨z, e1, e2⟩ := laI_cons r k1
            rw [e1, Int.toNat_natCast] at h2
            have := hka z (.inl e2)
            rw [← h2, hq] at this; exact hqp (Option.some.inj this)

/-- What unlink does: it is what link did, taken back. -/
theorem Ok.unlink_raw {a : Ar} (h : a.Ok) {p x : Nat} (hu : a.up x = some p) : unlinkF a.raw p x = (a.cut x).raw := by
  obtain ⟨k1, k2, e, h1, h2, hn⟩ := h.split hu
  have hka : ∀ y, y ∈ k1 ∨ y ∈ k2 → a.up y = some p := fun y hy => (h.link p y).1 (by rw [e]; rcases hy with hy | hy <;> simp [hy])
  have hah : (a.raw x).ah = laI k1 := by rw [raw_ah hu, e, bef_at h1]
  have hbe : (a.raw x).be = hdI k2 := by rw [raw_be hu, e, aft_at h1]
  have hkp : ∀ y, (a.cut x).kids y = if y = p then k1 ++ k2 else a.kids y := fun y => by
    show (if a.up x = some y then (a.kids y).erase x else a.kids y) = _
    rw [hu]
    by_cases hy : y = p
    · subst hy
      rw [if_pos rfl, if_pos rfl, e, List.erase_append_right _ h1, List.erase_cons_head]
    · rw [if_neg (fun hh => hy (Option.some.inj hh).symm), if_neg hy]
  have hup : ∀ y, (a.cut x).up y = if y = x then none else a.up y := fun y => rfl
  have hxx : (a.cut x).up x = none := by rw [hup, if_pos rfl]
  funext y
  have hU : ∀ (M : Nat → Pn), sBe (sAh (sUp M x (-1)) x (-1)) x (-1) y = if y = x then ⟨(M x).lb, -1, (M x).fi, (M x).la, -1, -1⟩ else M y := fun M => by
    unfold sBe sAh sUp
    by_cases hy : y = x
    · simp only [hy, if_pos]
    · simp only [if_neg hy]
  unfold unlinkF
  rw [hah, hbe, hU]
  refine Pn.eq ?_ ?_ ?_ ?_ ?_ ?_
  · show _ = a.lb y
    split
    · rename_i hy; rw [hy]; exact joinF_lb ..
    · exact joinF_lb ..
  · show _ = upI ((a.cut x).up y)
    rw [hup]
    split
    · rfl
    · exact joinF_up ..
  · show _ = hdI ((a.cut x).kids y)
    have e1 : (if y = x then (⟨(joinF a.raw p (laI k1) (hdI k2) x).lb, -1, (joinF a.raw p (laI k1) (hdI k2) x).fi, (joinF a.raw p (laI k1) (hdI k2) x).la, -1, -1⟩ : Pn) else joinF a.raw p (laI k1) (hdI k2) y).fi = (joinF a.raw p (laI k1) (hdI k2) y).fi := by
      split
      · rename_i hy; rw [hy]
      · rfl
    rw [e1, joinF_fi, hkp]
    by_cases hy : y = p
    · simp only [hy, and_true, if_pos]
      show _ = _
      have : (a.raw p).fi = hdI (k1 ++ x :: k2) := by show hdI (a.kids p) = _; rw [e]
      rw [this, hdI_put]
      cases k1 with
      | nil => rfl
      | cons z k1 =>
        have hz : ¬ laI (z :: k1) = -1 := fun e => by have := laI_neg.1 e; cases this
        rw [if_neg hz, if_neg hz]
    · rw [if_neg (fun hh => hy hh.2), if_neg hy]; rfl
  · show _ = laI ((a.cut x).kids y)
    have e1 : (if y = x then (⟨(joinF a.raw p (laI k1) (hdI k2) x).lb, -1, (joinF a.raw p (laI k1) (hdI k2) x).fi, (joinF a.raw p (laI k1) (hdI k2) x).la, -1, -1⟩ : Pn) else joinF a.raw p (laI k1) (hdI k2) y).la = (joinF a.raw p (laI k1) (hdI k2) y).la := by
      split
      · rename_i hy; rw [hy]
      · rfl
    rw [e1, joinF_la, hkp]
    by_cases hy : y = p
    · simp only [hy, and_true, if_pos]
      have : (a.raw p).la = laI (k1 ++ x :: k2) := by show laI (a.kids p) = _; rw [e]
      rw [this, laI_put]
      cases k2 with
      | nil => rw [hdI_nil, if_pos rfl, List.append_nil]
      | cons z k2 =>
        have hz : ¬ hdI (z :: k2) = -1 := fun e => by have := hdI_neg.1 e; cases this
        rw [if_neg hz, if_neg hz]
    · rw [if_neg (fun hh => hy hh.2), if_neg hy]; rfl
  · by_cases hy : y = x
    · rw [if_pos hy, hy, raw_ah_none hxx]
    · rw [if_neg hy, joinF_ah]
      cases hq : a.up y with
      | none =>
        rw [raw_ah_none hq, raw_ah_none (by rw [hup, if_neg hy]; exact hq), if_neg]
        rintro ⟨h1, h2⟩
        cases k2 with
        | nil => exact h1 rfl
        | cons r k2 =>
          rw [show hdI (r :: k2) = (r : Int) from rfl, Int.toNat_natCast] at h2
          have := hka r (.inr (by simp))
          rw [← h2, hq] at this; cases this
      | some q =>
        rw [raw_ah hq, raw_ah (p := q) (by rw [hup, if_neg hy]; exact hq), hkp]
        by_cases hqp : q = p
        · subst hqp
          rw [if_pos rfl, e, bef_put hy hn]
          cases k2 with
          | nil => rw [if_neg (fun hh => hh.1 rfl), hdI_nil, if_neg (show ¬ (-1 : Int) = y by omega)]
          | cons r k2 =>
            rw [show hdI (r :: k2) = (r : Int) from rfl, Int.toNat_natCast]
            by_cases hr : y = r
            · have hr1 : r ∉ k1 := fun hm => (List.nodup_append.1 hn).2.2 r hm r (by simp) rfl
              rw [if_pos ⟨by omega, hr⟩, hr, bef_at hr1]
            · rw [if_neg (fun hh => hr hh.2), if_neg (by omega)]
        · rw [if_neg hqp, if_neg]
          rintro ⟨h1, h2⟩
          cases k2 with
          | nil => exact h1 rfl
          | cons r k2 =>
            rw [show hdI (r :: k2) = (r : Int) from rfl, Int.toNat_natCast] at h2
            have := hka r (.inr (by simp))
            rw [← h2, hq] at this; exact hqp (Option.some.inj this)
  · by_cases hy : y = x
    · rw [if_pos hy, hy, raw_be_none hxx]
    · rw [if_neg hy, joinF_be]
      cases hq : a.up y with
      | none =>
        rw [raw_be_none hq, raw_be_none (by rw [hup, if_neg hy]; exact hq), if_neg]
        rintro ⟨h1, h2⟩
        cases k1 with
        | nil => exact h1 rfl
        | cons r k1 =>
          obtain ⟨z, e1, e2⟩ := laI_cons r k1
          rw [e1, Int.toNat_natCast] at h2
          have := hka z (.inl e2)
          rw [← h2, hq] at this; cases this
      | some q =>
        rw [raw_be hq, raw_be (p := q) (by rw [hup, if_neg hy]; exact hq), hkp]
        by_cases hqp : q = p
        · subst hqp
          rw [if_pos rfl, e, aft_put hy hn]
          cases k1 with
          | nil => rw [if_neg (fun hh => hh.1 rfl), laI_nil, if_neg (show ¬ (-1 : Int) = y by omega)]
          | cons r k1 =>
            obtain ⟨z, e1, e2⟩ := laI_cons r k1
            rw [e1, Int.toNat_natCast]
            by_cases hr : y = z
            · rw [if_pos ⟨by omega, hr⟩, hr]
              exact (aft_last e1 hn).symm
            · rw [if_neg (fun hh => hr hh.2), if_neg (by omega)]
        · rw [if_neg hqp, if_neg]
          rintro ⟨h1, h2⟩
          cases k1 with
          | nil => exact h1 rfl
          | cons r k1 =>
            obtain ⟨z, e1, e2⟩ := laI_cons r k1
            rw [e1, Int.toNat_natCast] at h2
            have := hka z (.inl e2)
            rw [← h2, hq] at this; exact hqp (Option.some.inj this)

end Ar
end Go.Proofs.Ytpkppobkagdhkaa
