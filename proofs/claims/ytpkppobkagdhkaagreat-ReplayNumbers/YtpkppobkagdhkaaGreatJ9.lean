/-
  Joined: Chain LotsD.
-/
import Derived.Test.YtpkppobkagdhkaaGreatJ8

/-
  Kids as a chain: each node with its parent, its first and last kid, and those right ahead of it and behind it: no program.
-/
namespace Go.Proofs.YtpkppobkagdhkaaGreat
set_option linter.unusedVariables false
set_option linter.unusedSimpArgs false

/-- The first of some numbers, -1 of none. -/
def hdI : List Nat → Int
  | [] => -1
  | x :: _ => x
/-- The last of some numbers, p of none. -/
def laG (p : Int) : List Nat → Int
  | [] => p
  | y :: r => laG y r
def laI (k : List Nat) : Int := laG (-1) k
/-- The one right ahead of x, p ahead of the first. -/
def befG (p : Int) : List Nat → Nat → Int
  | [], _ => -1
  | y :: r, x => if y = x then p else befG y r x
def bef (k : List Nat) (x : Nat) : Int := befG (-1) k x
/-- The one right behind x. -/
def aft : List Nat → Nat → Int
  | [], _ => -1
  | y :: r, x => if y = x then hdI r else aft r x

theorem hdI_neg {k : List Nat} : hdI k = -1 ↔ k = [] := by
  cases k with
  | nil => exact ⟨fun _ => rfl, fun _ => rfl⟩
  | cons x r => exact ⟨fun h => by have : (x : Int) = -1 := h; omega, fun h => by cases h⟩
theorem laG_nat (p : Nat) : ∀ k : List Nat, ∃ z : Nat, laG p k = z ∧ z ∈ p :: k
  | [] => ⟨p, rfl, by simp⟩
  | y :: r => by
    obtain ⟨z, h1, h2⟩ := laG_nat y r
    exact ⟨z, h1, List.mem_cons_of_mem _ h2⟩
theorem laI_cons (y : Nat) (r : List Nat) : ∃ z : Nat, laI (y :: r) = z ∧ z ∈ y :: r := laG_nat y r
theorem laI_neg {k : List Nat} : laI k = -1 ↔ k = [] := by
  cases k with
  | nil => exact ⟨fun _ => rfl, fun _ => rfl⟩
  | cons x r =>
    obtain ⟨z, h1, _⟩ := laI_cons x r
    exact ⟨fun h => by omega, fun h => by cases h⟩
theorem laG_app (p : Int) : ∀ (k : List Nat) (x : Nat) (r : List Nat), laG p (k ++ x :: r) = laG x r
  | [], _, _ => rfl
  | y :: k, x, r => laG_app y k x r
theorem laI_app (k : List Nat) (x : Nat) (r : List Nat) : laI (k ++ x :: r) = laI (x :: r) := laG_app _ k x r
theorem laI_mem {k : List Nat} {y : Nat} (h : laI k = y) : y ∈ k := by
  cases k with
  | nil => have : (-1 : Int) = y := h; omega
  | cons x r =>
    obtain ⟨z, h1, h2⟩ := laI_cons x r
    have : z = y := by omega
    exact this ▸ h2
theorem hdI_mem {k : List Nat} {y : Nat} (h : hdI k = y) : y ∈ k := by
  cases k with
  | nil => have : (-1 : Int) = y := h; omega
  | cons x r => have : (x : Int) = y := h; have : x = y := by omega
                simp [this]

theorem befG_at (p : Int) : ∀ (k1 : List Nat) (x : Nat) (k2 : List Nat), x ∉ k1 → befG p (k1 ++ x :: k2) x = laG p k1
  | [], x, k2, _ => by simp [befG, laG]
  | y :: r, x, k2, h => by
    have h1 : y ≠ x := fun e => h (by simp [e])
    simp only [List.cons_append, befG, if_neg h1, laG]
    exact befG_at y r x k2 (fun hm => h (List.mem_cons_of_mem _ hm))
theorem bef_at {k1 : List Nat} {x : Nat} {k2 : List Nat} (h : x ∉ k1) : bef (k1 ++ x :: k2) x = laI k1 := befG_at _ k1 x k2 h

theorem befG_put (p : Int) : ∀ (k1 k2 : List Nat) (x y : Nat), y ≠ x → (k1 ++ k2).Nodup → befG p (k1 ++ x :: k2) y = if hdI k2 = (y : Int) then (x : Int) else befG p (k1 ++ k2) y
  | [], k2, x, y, h, hn => by
    simp only [List.nil_append, befG, if_neg (Ne.symm h)]
    cases k2 with
    | nil => rw [if_neg (show ¬ hdI [] = (y : Int) by show ¬ (-1 : Int) = y; omega)]; rfl
    | cons z r =>
      show (if z = y then (x : Int) else befG z r y) = if (z : Int) = y then (x : Int) else (if z = y then p else befG z r y)
      by_cases e : z = y
      · rw [if_pos e, if_pos (by omega)]
      · rw [if_neg e, if_neg (by omega), if_neg e]
  | z :: r, k2, x, y, h, hn => by
    simp only [List.cons_append, befG]
    have hn' := List.nodup_cons.1 hn
    by_cases e : z = y
    · rw [if_pos e, if_pos e, if_neg (fun e2 => hn'.1 (by rw [e]; exact List.mem_append_right _ (hdI_mem e2)))]
    · rw [if_neg e, if_neg e]
      exact befG_put z r k2 x y h hn'.2
theorem bef_put {k1 k2 : List Nat} {x y : Nat} (h : y ≠ x) (hn : (k1 ++ k2).Nodup) : bef (k1 ++ x :: k2) y = if hdI k2 = (y : Int) then (x : Int) else bef (k1 ++ k2) y := befG_put _ k1 k2 x y h hn

theorem aft_at : ∀ {k1 : List Nat} {x : Nat} {k2 : List Nat}, x ∉ k1 → aft (k1 ++ x :: k2) x = hdI k2
  | [], x, k2, _ => by simp [aft]
  | y :: r, x, k2, h => by
    have h1 : y ≠ x := fun e => h (by simp [e])
    simp only [List.cons_append, aft, if_neg h1]
    exact aft_at (fun hm => h (List.mem_cons_of_mem _ hm))
theorem aft_put : ∀ {k1 k2 : List Nat} {x y : Nat}, y ≠ x → (k1 ++ k2).Nodup → aft (k1 ++ x :: k2) y = if laI k1 = (y : Int) then (x : Int) else aft (k1 ++ k2) y
  | [], k2, x, y, h, hn => by
    rw [if_neg (show ¬ laI [] = (y : Int) by show ¬ (-1 : Int) = y; omega)]
    simp only [List.nil_append, aft, if_neg (Ne.symm h)]
  | [z], k2, x, y, h, hn => by
    simp only [List.cons_append, List.nil_append, aft, if_neg (Ne.symm h), hdI]
    have e0 : laI [z] = (z : Int) := rfl
    rw [e0]
    by_cases e : z = y
    · rw [if_pos e, if_pos (by omega)]
    · rw [if_neg e, if_neg (by omega), if_neg e]
  | z :: z2 :: r, k2, x, y, h, hn => by
    have hn' := List.nodup_cons.1 hn
    have e0 : laI (z :: z2 :: r) = laI (z2 :: r) := rfl
    have ih := aft_put (k1 := z2 :: r) (k2 := k2) h hn'.2
    rw [e0]
    show (if z = y then hdI (z2 :: r ++ x :: k2) else aft (z2 :: r ++ x :: k2) y) = if _ then _ else (if z = y then hdI (z2 :: r ++ k2) else aft (z2 :: r ++ k2) y)
    by_cases e : z = y
    · rw [if_pos e, if_pos e, if_neg (fun e2 => hn'.1 (by rw [e]; exact List.mem_append_left _ (laI_mem e2)))]
      rfl
    · rw [if_neg e, if_neg e]; exact ih

theorem hdI_put (k1 k2 : List Nat) (x : Nat) : hdI (k1 ++ x :: k2) = if laI k1 = -1 then (x : Int) else hdI (k1 ++ k2) := by
  cases k1 with
  | nil => rfl
  | cons y r => rw [if_neg (fun e => by have := laI_neg.1 e; cases this)]; rfl
theorem laI_put (k1 k2 : List Nat) (x : Nat) : laI (k1 ++ x :: k2) = if hdI k2 = -1 then (x : Int) else laI (k1 ++ k2) := by
  cases k2 with
  | nil => rw [laI_app]; rfl
  | cons y r =>
    rw [if_neg (fun e => by have := hdI_neg.1 e; cases this), laI_app, laI_app]; rfl

theorem hdI_nil : hdI [] = -1 := rfl
theorem laI_nil : laI [] = -1 := rfl
theorem laI_split {k : List Nat} {z : Nat} (h : laI k = (z : Int)) : ∃ k3, k = k3 ++ [z] := by
  rcases List.eq_nil_or_concat k with rfl | ⟨L, b, rfl⟩
  · rw [laI_nil] at h; omega
  · rw [List.concat_eq_append, laI_app] at h
    have : (b : Int) = z := h
    obtain rfl : b = z := by omega
    exact ⟨L, by simp⟩
theorem aft_last {k1 k2 : List Nat} {z : Nat} (h : laI k1 = (z : Int)) (hn : (k1 ++ k2).Nodup) : aft (k1 ++ k2) z = hdI k2 := by
  obtain ⟨k3, rfl⟩ := laI_split h
  rw [List.append_assoc, List.singleton_append]
  refine aft_at (fun hm => ?_)
  rw [List.append_assoc, List.nodup_append] at hn
  exact hn.2.2 z hm z (by simp) rfl

/-- A node of the list: what it has by itself; its parent, first kid, last kid, the one ahead of it, the one behind it. -/
structure Pn where
  lb : Lb
  up : Int
  fi : Int
  la : Int
  ah : Int
  be : Int

theorem Pn.eq {x y : Pn} (h1 : x.lb = y.lb) (h2 : x.up = y.up) (h3 : x.fi = y.fi) (h4 : x.la = y.la) (h5 : x.ah = y.ah) (h6 : x.be = y.be) : x = y := by
  cases x; cases y; simp only at h1 h2 h3 h4 h5 h6; subst h1 h2 h3 h4 h5 h6; rfl

def sUp (N : Nat → Pn) (x : Nat) (v : Int) : Nat → Pn := fun i => if i = x then ⟨(N x).lb, v, (N x).fi, (N x).la, (N x).ah, (N x).be⟩ else N i
def sFi (N : Nat → Pn) (x : Nat) (v : Int) : Nat → Pn := fun i => if i = x then ⟨(N x).lb, (N x).up, v, (N x).la, (N x).ah, (N x).be⟩ else N i
def sLa (N : Nat → Pn) (x : Nat) (v : Int) : Nat → Pn := fun i => if i = x then ⟨(N x).lb, (N x).up, (N x).fi, v, (N x).ah, (N x).be⟩ else N i
def sAh (N : Nat → Pn) (x : Nat) (v : Int) : Nat → Pn := fun i => if i = x then ⟨(N x).lb, (N x).up, (N x).fi, (N x).la, v, (N x).be⟩ else N i
def sBe (N : Nat → Pn) (x : Nat) (v : Int) : Nat → Pn := fun i => if i = x then ⟨(N x).lb, (N x).up, (N x).fi, (N x).la, (N x).ah, v⟩ else N i
def sLb (N : Nat → Pn) (x : Nat) (v : Lb) : Nat → Pn := fun i => if i = x then ⟨v, (N x).up, (N x).fi, (N x).la, (N x).ah, (N x).be⟩ else N i

/-- One kid right ahead of another. -/
def joinA (N : Nat → Pn) (p : Nat) (a b : Int) : Nat → Pn := if a = -1 then sFi N p b else sBe N a.toNat b
def joinB (N : Nat → Pn) (p : Nat) (a b : Int) : Nat → Pn := if b = -1 then sLa N p a else sAh N b.toNat a
def joinF (N : Nat → Pn) (p : Nat) (a b : Int) : Nat → Pn := joinB (joinA N p a b) p a b

def aheadF (N : Nat → Pn) (p : Nat) (r : Int) : Int := if r = -1 then (N p).la else (N r.toNat).ah
def linkF (N : Nat → Pn) (p : Nat) (r : Int) (x : Nat) : Nat → Pn := joinF (joinF (sUp N x p) p (aheadF N p r) x) p x r
def unlinkF (N : Nat → Pn) (p x : Nat) : Nat → Pn := sBe (sAh (sUp (joinF N p (N x).ah (N x).be) x (-1)) x (-1)) x (-1)

theorem joinF_lb (N : Nat → Pn) (p : Nat) (a b : Int) (y : Nat) : (joinF N p a b y).lb = (N y).lb := by
  unfold joinF joinB joinA sFi sBe sLa sAh
  by_cases h1 : a = -1 <;> by_cases h2 : b = -1 <;> simp only [h1, h2, if_true, if_false] <;> (repeat' split) <;> simp_all
theorem joinF_up (N : Nat → Pn) (p : Nat) (a b : Int) (y : Nat) : (joinF N p a b y).up = (N y).up := by
  unfold joinF joinB joinA sFi sBe sLa sAh
  by_cases h1 : a = -1 <;> by_cases h2 : b = -1 <;> simp only [h1, h2, if_true, if_false] <;> (repeat' split) <;> simp_all
theorem joinF_fi (N : Nat → Pn) (p : Nat) (a b : Int) (y : Nat) : (joinF N p a b y).fi = if a = -1 ∧ y = p then b else (N y).fi := by
  unfold joinF joinB joinA sFi sBe sLa sAh
  by_cases h1 : a = -1 <;> by_cases h2 : b = -1 <;> simp only [h1, h2, if_true, if_false, true_and, false_and] <;> (repeat' split) <;> simp_all
theorem joinF_la (N : Nat → Pn) (p : Nat) (a b : Int) (y : Nat) : (joinF N p a b y).la = if b = -1 ∧ y = p then a else (N y).la := by
  unfold joinF joinB joinA sFi sBe sLa sAh
  by_cases h1 : a = -1 <;> by_cases h2 : b = -1 <;> simp only [h1, h2, if_true, if_false, true_and, false_and] <;> (repeat' split) <;> simp_all
theorem joinF_be (N : Nat → Pn) (p : Nat) (a b : Int) (y : Nat) : (joinF N p a b y).be = if a ≠ -1 ∧ y = a.toNat then b else (N y).be := by
  unfold joinF joinB joinA sFi sBe sLa sAh
  by_cases h1 : a = -1 <;> by_cases h2 : b = -1 <;> simp only [h1, h2, if_true, if_false, true_and, false_and, ne_eq, not_true, not_false_iff] <;> (repeat' split) <;> simp_all
theorem joinF_ah (N : Nat → Pn) (p : Nat) (a b : Int) (y : Nat) : (joinF N p a b y).ah = if b ≠ -1 ∧ y = b.toNat then a else (N y).ah := by
  unfold joinF joinB joinA sFi sBe sLa sAh
  by_cases h1 : a = -1 <;> by_cases h2 : b = -1 <;> simp only [h1, h2, if_true, if_false, true_and, false_and, ne_eq, not_true, not_false_iff] <;> (repeat' split) <;> simp_all

namespace Ar

def upI : Option Nat → Int
  | none => -1
  | some p => p

/-- The chain of an arena. -/
def raw (a : Ar) (y : Nat) : Pn :=
  ⟨a.lb y, upI (a.up y), hdI (a.kids y), laI (a.kids y), (match a.up y with | none => -1 | some p => bef (a.kids p) y), (match a.up y with | none => -1 | some p => aft (a.kids p) y)⟩

theorem raw_ah {a : Ar} {y p : Nat} (h : a.up y = some p) : (a.raw y).ah = bef (a.kids p) y := by simp only [raw, h]
theorem raw_be {a : Ar} {y p : Nat} (h : a.up y = some p) : (a.raw y).be = aft (a.kids p) y := by simp only [raw, h]
theorem raw_ah_none {a : Ar} {y : Nat} (h : a.up y = none) : (a.raw y).ah = -1 := by simp only [raw, h]
theorem raw_be_none {a : Ar} {y : Nat} (h : a.up y = none) : (a.raw y).be = -1 := by simp only [raw, h]

theorem Ok.split {a : Ar} (h : a.Ok) {p y : Nat} (hu : a.up y = some p) : ∃ k1 k2, a.kids p = k1 ++ y :: k2 ∧ y ∉ k1 ∧ y ∉ k2 ∧ (k1 ++ k2).Nodup := by
  obtain ⟨k1, k2, e⟩ := List.append_of_mem ((h.link p y).2 hu)
  have hn := h.one p
  rw [e, List.nodup_append, List.nodup_cons] at hn
  exact ⟨k1, k2, e, fun hm => hn.2.2 y hm y (by simp) rfl, hn.2.1.1, List.nodup_append.2 ⟨hn.1, hn.2.1.2, fun x hx z hz => hn.2.2 x hx z (List.mem_cons_of_mem _ hz)⟩⟩

/-- What link does. -/
theorem Ok.link_raw {a : Ar} (h : a.Ok) {p x : Nat} {k1 k2 : List Nat} (e : a.kids p = k1 ++ k2) (hu : a.up x = none) : linkF a.raw p (hdI k2) x = (a.put p k1.length x).raw := by
  have hn := h.one p
  rw [e] at hn
  have hx : ∀ q, x ∉ a.kids q := fun q hq => by rw [(h.link q x).1 hq] at hu; cases hu
  have hxk := hx p
  rw [e, List.mem_append] at hxk
  have hka : ∀ y, y ∈ k1 ∨ y ∈ k2 → a.up y = some p := fun y hy => (h.link p y).1 (by rw [e]; exact List.mem_append.2 hy)
  have hah : aheadF a.raw p (hdI k2) = laI k1 := by
    unfold aheadF
    cases k2 with
    | nil => rw [hdI_nil, if_pos rfl]; show laI (a.kids p) = _; rw [e, List.append_nil]
    | cons r k2 =>
      rw [if_neg (fun e => by have := hdI_neg.1 e; cases this)]
      show (a.raw ((r : Int).toNat)).ah = _
      rw [Int.toNat_natCast, raw_ah (hka r (.inr (by simp))), e]
      exact bef_at (fun hm => by rw [List.nodup_append] at hn; exact hn.2.2 r hm r (by simp) rfl)
  have hkp : ∀ y, (a.put p k1.length x).kids y = if y = p then k1 ++ x :: k2 else a.kids y := fun y => by
    show (if y = p then (a.kids p).take k1.length ++ x :: (a.kids p).drop k1.length else a.kids y) = _
    rw [e, List.take_left, List.drop_left]
  have hup : ∀ y, (a.put p k1.length x).up y = if y = x then some p else a.up y := fun y => rfl
  have hx1 : ¬ ((x : Int) = -1) := by omega
  funext y
  unfold linkF
  rw [hah]
  refine Pn.eq ?_ ?_ ?_ ?_ ?_ ?_
  · rw [joinF_lb, joinF_lb]; unfold sUp
    show ((if y = x then _ else _ : Pn)).lb = a.lb y
    split
    · rename_i e; rw [e]; rfl
    · rfl
  · rw [joinF_up, joinF_up]
    show ((if y = x then _ else _ : Pn)).up = upI ((a.put p k1.length x).up y)
    rw [hup]
    split <;> rfl
  · rw [joinF_fi, joinF_fi, if_neg (fun hh => hx1 hh.1)]
    show _ = hdI ((a.put p k1.length x).kids y)
    rw [hkp]
    have e0 : (sUp a.raw x p y).fi = hdI (a.kids y) := by unfold sUp; split <;> rename_i e <;> simp only [raw, e]
    rw [e0]
    by_cases hy : y = p
    · simp only [hy, and_true, if_pos]
      rw [hdI_put, e]
    · rw [if_neg (fun hh => hy hh.2), if_neg hy]
  · rw [joinF_la, joinF_la, if_neg (c := (x : Int) = -1 ∧ y = p) (fun hh => hx1 hh.1)]
    show _ = laI ((a.put p k1.length x).kids y)
    rw [hkp]
    have e0 : (sUp a.raw x p y).la = laI (a.kids y) := by unfold sUp; split <;> rename_i e <;> simp only [raw, e]
    rw [e0]
    by_cases hy : y = p
    · simp only [hy, and_true, if_pos]
      rw [laI_put, e]
    · rw [if_neg (fun hh => hy hh.2), if_neg hy]
  · rw [joinF_ah, joinF_ah]
    have e0 : (sUp a.raw x p y).ah = (a.raw y).ah := by unfold sUp; split <;> rename_i e <;> simp only [e]
    rw [e0]
    by_cases hy : y = x
    · have h2 : ¬ (hdI k2 ≠ -1 ∧ y = (hdI k2).toNat) := fun hh => by
        cases k2 with
        | nil => exact hh.1 rfl
        | cons r k2 => exact hxk (.inr (by have := hh.2; rw [show hdI (r :: k2) = (r : Int) from rfl, Int.toNat_natCast, hy] at this; simp [this]))
      rw [if_neg h2, if_pos ⟨hx1, by rw [Int.toNat_natCast]; exact hy⟩]
      rw [raw_ah (p := p) (by rw [hup, if_pos hy]), hkp, if_pos rfl, hy, bef_at (fun hm => hxk (.inl hm))]
    · rw [if_neg (c := (x : Int) ≠ -1 ∧ y = (x : Int).toNat) (fun hh => hy (by have := hh.2; rwa [Int.toNat_natCast] at this))]
      cases hq : a.up y with
      | none =>
        rw [raw_ah_none hq, raw_ah_none (by rw [hup, if_neg hy]; exact hq), if_neg]
        rintro ⟨h1, h2⟩
        cases k2 with
        | nil => exact h1 rfl
        | cons r k2 =>
          rw [show hdI (r :: k2) = (r : Int) from rfl, Int.toNat_natCast] at h2
          have := hka r (.inr (by simp))
          rw [← h2, hq] at this; cases this
      | some q =>
        rw [raw_ah hq, raw_ah (p := q) (by rw [hup, if_neg hy]; exact hq), hkp]
        by_cases hqp : q = p
        · subst hqp
          rw [if_pos rfl, bef_put hy hn, e]
          cases k2 with
          | nil => rw [if_neg (fun hh => hh.1 rfl), hdI_nil, if_neg (show ¬ (-1 : Int) = y by omega)]
          | cons r k2 =>
            rw [show hdI (r :: k2) = (r : Int) from rfl, Int.toNat_natCast]
            by_cases hr : y = r
            · rw [if_pos ⟨by omega, hr⟩, if_pos (by omega)]
            · rw [if_neg (fun hh => hr hh.2), if_neg (by omega)]
        · rw [if_neg hqp, if_neg]
          rintro ⟨h1, h2⟩
          cases k2 with
          | nil => exact h1 rfl
          | cons r k2 =>
            rw [show hdI (r :: k2) = (r : Int) from rfl, Int.toNat_natCast] at h2
            have := hka r (.inr (by simp))
            rw [← h2, hq] at this; exact hqp (Option.some.inj this)
  · rw [joinF_be, joinF_be]
    have e0 : (sUp a.raw x p y).be = (a.raw y).be := by unfold sUp; split <;> rename_i e <;> simp only [e]
    rw [e0]
    by_cases hy : y = x
    · rw [if_pos ⟨hx1, by rw [Int.toNat_natCast]; exact hy⟩]
      rw [raw_be (p := p) (by rw [hup, if_pos hy]), hkp, if_pos rfl, hy, aft_at (fun hm => hxk (.inl hm))]
    · rw [if_neg (c := (x : Int) ≠ -1 ∧ y = (x : Int).toNat) (fun hh => hy (by have := hh.2; rwa [Int.toNat_natCast] at this))]
      cases hq : a.up y with
      | none =>
        rw [raw_be_none hq, raw_be_none (by rw [hup, if_neg hy]; exact hq), if_neg]
        rintro ⟨h1, h2⟩
        cases k1 with
        | nil => exact h1 rfl
        | cons r k1 =>
          obtain ⟨z, e1, e2⟩ := laI_cons r k1
          rw [e1, Int.toNat_natCast] at h2
          have := hka z (.inl e2)
          rw [← h2, hq] at this; cases this
      | some q =>
        rw [raw_be hq, raw_be (p := q) (by rw [hup, if_neg hy]; exact hq), hkp]
        by_cases hqp : q = p
        · subst hqp
          rw [if_pos rfl, aft_put hy hn, e]
          cases k1 with
          | nil => rw [if_neg (fun hh => hh.1 rfl), laI_nil, if_neg (show ¬ (-1 : Int) = y by omega)]
          | cons r k1 =>
            obtain ⟨z, e1, e2⟩ := laI_cons r k1
            rw [e1, Int.toNat_natCast]
            by_cases hr : y = z
            · rw [if_pos ⟨by omega, hr⟩, if_pos (by omega)]
            · rw [if_neg (fun hh => hr hh.2), if_neg (by omega)]
        · rw [if_neg hqp, if_neg]
          rintro ⟨h1, h2⟩
          cases k1 with
          | nil => exact h1 rfl
          | cons r k1 =>
            obtain ⟨z, e1, e2⟩ := laI_cons r k1
            rw [e1, Int.toNat_natCast] at h2
            have := hka z (.inl e2)
            rw [← h2, hq] at this; exact hqp (Option.some.inj this)

/-- What unlink does: it is what link did, taken back. -/
theorem Ok.unlink_raw {a : Ar} (h : a.Ok) {p x : Nat} (hu : a.up x = some p) : unlinkF a.raw p x = (a.cut x).raw := by
  obtain ⟨k1, k2, e, h1, h2, hn⟩ := h.split hu
  have hka : ∀ y, y ∈ k1 ∨ y ∈ k2 → a.up y = some p := fun y hy => (h.link p y).1 (by rw [e]; rcases hy with hy | hy <;> simp [hy])
  have hah : (a.raw x).ah = laI k1 := by rw [raw_ah hu, e, bef_at h1]
  have hbe : (a.raw x).be = hdI k2 := by rw [raw_be hu, e, aft_at h1]
  have hkp : ∀ y, (a.cut x).kids y = if y = p then k1 ++ k2 else a.kids y := fun y => by
    show (if a.up x = some y then (a.kids y).erase x else a.kids y) = _
    rw [hu]
    by_cases hy : y = p
    · subst hy
      rw [if_pos rfl, if_pos rfl, e, List.erase_append_right _ h1, List.erase_cons_head]
    · rw [if_neg (fun hh => hy (Option.some.inj hh).symm), if_neg hy]
  have hup : ∀ y, (a.cut x).up y = if y = x then none else a.up y := fun y => rfl
  have hxx : (a.cut x).up x = none := by rw [hup, if_pos rfl]
  funext y
  have hU : ∀ (M : Nat → Pn), sBe (sAh (sUp M x (-1)) x (-1)) x (-1) y = if y = x then ⟨(M x).lb, -1, (M x).fi, (M x).la, -1, -1⟩ else M y := fun M => by
    unfold sBe sAh sUp
    by_cases hy : y = x
    · simp only [hy, if_pos]
    · simp only [if_neg hy]
  unfold unlinkF
  rw [hah, hbe, hU]
  refine Pn.eq ?_ ?_ ?_ ?_ ?_ ?_
  · show _ = a.lb y
    split
    · rename_i hy; rw [hy]; exact joinF_lb ..
    · exact joinF_lb ..
  · show _ = upI ((a.cut x).up y)
    rw [hup]
    split
    · rfl
    · exact joinF_up ..
  · show _ = hdI ((a.cut x).kids y)
    have e1 : (if y = x then (⟨(joinF a.raw p (laI k1) (hdI k2) x).lb, -1, (joinF a.raw p (laI k1) (hdI k2) x).fi, (joinF a.raw p (laI k1) (hdI k2) x).la, -1, -1⟩ : Pn) else joinF a.raw p (laI k1) (hdI k2) y).fi = (joinF a.raw p (laI k1) (hdI k2) y).fi := by
      split
      · rename_i hy; rw [hy]
      · rfl
    rw [e1, joinF_fi, hkp]
    by_cases hy : y = p
    · simp only [hy, and_true, if_pos]
      show _ = _
      have : (a.raw p).fi = hdI (k1 ++ x :: k2) := by show hdI (a.kids p) = _; rw [e]
      rw [this, hdI_put]
      cases k1 with
      | nil => rfl
      | cons z k1 =>
        have hz : ¬ laI (z :: k1) = -1 := fun e => by have := laI_neg.1 e; cases this
        rw [if_neg hz, if_neg hz]
    · rw [if_neg (fun hh => hy hh.2), if_neg hy]; rfl
  · show _ = laI ((a.cut x).kids y)
    have e1 : (if y = x then (⟨(joinF a.raw p (laI k1) (hdI k2) x).lb, -1, (joinF a.raw p (laI k1) (hdI k2) x).fi, (joinF a.raw p (laI k1) (hdI k2) x).la, -1, -1⟩ : Pn) else joinF a.raw p (laI k1) (hdI k2) y).la = (joinF a.raw p (laI k1) (hdI k2) y).la := by
      split
      · rename_i hy; rw [hy]
      · rfl
    rw [e1, joinF_la, hkp]
    by_cases hy : y = p
    · simp only [hy, and_true, if_pos]
      have : (a.raw p).la = laI (k1 ++ x :: k2) := by show laI (a.kids p) = _; rw [e]
      rw [this, laI_put]
      cases k2 with
      | nil => rw [hdI_nil, if_pos rfl, List.append_nil]
      | cons z k2 =>
        have hz : ¬ hdI (z :: k2) = -1 := fun e => by have := hdI_neg.1 e; cases this
        rw [if_neg hz, if_neg hz]
    · rw [if_neg (fun hh => hy hh.2), if_neg hy]; rfl
  · by_cases hy : y = x
    · rw [if_pos hy, hy, raw_ah_none hxx]
    · rw [if_neg hy, joinF_ah]
      cases hq : a.up y with
      | none =>
        rw [raw_ah_none hq, raw_ah_none (by rw [hup, if_neg hy]; exact hq), if_neg]
        rintro ⟨h1, h2⟩
        cases k2 with
        | nil => exact h1 rfl
        | cons r k2 =>
          rw [show hdI (r :: k2) = (r : Int) from rfl, Int.toNat_natCast] at h2
          have := hka r (.inr (by simp))
          rw [← h2, hq] at this; cases this
      | some q =>
        rw [raw_ah hq, raw_ah (p := q) (by rw [hup, if_neg hy]; exact hq), hkp]
        by_cases hqp : q = p
        · subst hqp
          rw [if_pos rfl, e, bef_put hy hn]
          cases k2 with
          | nil => rw [if_neg (fun hh => hh.1 rfl), hdI_nil, if_neg (show ¬ (-1 : Int) = y by omega)]
          | cons r k2 =>
            rw [show hdI (r :: k2) = (r : Int) from rfl, Int.toNat_natCast]
            by_cases hr : y = r
            · have hr1 : r ∉ k1 := fun hm => (List.nodup_append.1 hn).2.2 r hm r (by simp) rfl
              rw [if_pos ⟨by omega, hr⟩, hr, bef_at hr1]
            · rw [if_neg (fun hh => hr hh.2), if_neg (by omega)]
        · rw [if_neg hqp, if_neg]
          rintro ⟨h1, h2⟩
          cases k2 with
          | nil => exact h1 rfl
          | cons r k2 =>
            rw [show hdI (r :: k2) = (r : Int) from rfl, Int.toNat_natCast] at h2
            have := hka r (.inr (by simp))
            rw [← h2, hq] at this; exact hqp (Option.some.inj this)
  · by_cases hy : y = x
    · rw [if_pos hy, hy, raw_be_none hxx]
    · rw [if_neg hy, joinF_be]
      cases hq : a.up y with
      | none =>
        rw [raw_be_none hq, raw_be_none (by rw [hup, if_neg hy]; exact hq), if_neg]
        rintro ⟨h1, h2⟩
        cases k1 with
        | nil => exact h1 rfl
        | cons r k1 =>
          obtain ⟨z, e1, e2⟩ := laI_cons r k1
          rw [e1, Int.toNat_natCast] at h2
          have := hka z (.inl e2)
          rw [← h2, hq] at this; cases this
      | some q =>
        rw [raw_be hq, raw_be (p := q) (by rw [hup, if_neg hy]; exact hq), hkp]
        by_cases hqp : q = p
        · subst hqp
          rw [if_pos rfl, e, aft_put hy hn]
          cases k1 with
          | nil => rw [if_neg (fun hh => hh.1 rfl), laI_nil, if_neg (show ¬ (-1 : Int) = y by omega)]
          | cons r k1 =>
            obtain ⟨z, e1, e2⟩ := laI_cons r k1
            rw [e1, Int.toNat_natCast]
            by_cases hr : y = z
            · rw [if_pos ⟨by omega, hr⟩, hr]
              exact (aft_last e1 hn).symm
            · rw [if_neg (fun hh => hr hh.2), if_neg (by omega)]
        · rw [if_neg hqp, if_neg]
          rintro ⟨h1, h2⟩
          cases k1 with
          | nil => exact h1 rfl
          | cons r k1 =>
            obtain ⟨z, e1, e2⟩ := laI_cons r k1
            rw [e1, Int.toNat_natCast] at h2
            have := hka z (.inl e2)
            rw [← h2, hq] at this; exact hqp (Option.some.inj this)

end Ar
end Go.Proofs.YtpkppobkagdhkaaGreat

/-
  Arenas by themselves: how isWithin goes up and counts; how Of lays a tree; sizes: no program.
-/
namespace Go.Proofs.YtpkppobkagdhkaaGreat
set_option linter.unusedVariables false
set_option linter.unusedSimpArgs false

/-- Numbers, each once, all of which stand in another row, are no more. -/
theorem pig_sub : ∀ (l m : List Nat), l.Nodup → (∀ x ∈ l, x ∈ m) → l.length ≤ m.length
  | [], _, _, _ => Nat.zero_le _
  | x :: l, m, hn, h => by
    have hn' := List.nodup_cons.1 hn
    have h1 := pig_sub l (m.erase x) hn'.2 (fun y hy => by
      have hyx : y ≠ x := fun e => hn'.1 (e ▸ hy)
      exact (List.mem_erase_of_ne hyx).2 (h y (List.mem_cons_of_mem _ hy)))
    have hx := h x (List.mem_cons_self ..)
    rw [List.length_erase_of_mem hx] at h1
    have := List.length_pos_of_mem hx
    simp only [List.length_cons]
    omega

/-- A node, if it is one. -/
def opt (z : Int) : List Nat := if z = -1 then [] else [z.toNat]

theorem opt_hd {k : List Nat} {s : Nat} {r : List Nat} (e : k = s :: r) : opt (hdI k) = [s] := by
  subst e
  unfold opt
  rw [if_neg (fun e => by have := hdI_neg.1 e; cases this)]
  rfl

theorem opt_len (z : Int) : (opt z).length ≤ 1 := by unfold opt; split <;> simp

namespace Ar

/-- The kid behind one. -/
theorem Ok.chain {a : Ar} (h : a.Ok) {p : Nat} {k1 k2 : List Nat} {y : Nat} (e : a.kids p = k1 ++ y :: k2) : (a.raw y).be = hdI k2 ∧ (a.raw y).ah = laI k1 := by
  have hu : a.up y = some p := (h.link p y).1 (by rw [e]; simp)
  have hn := h.one p
  rw [e, List.nodup_append] at hn
  have h1 : y ∉ k1 := fun hm => hn.2.2 y hm y (by simp) rfl
  exact ⟨by rw [raw_be hu, e, aft_at h1], by rw [raw_ah hu, e, bef_at h1]⟩

/-- What still is to be counted: one of the pile, those behind it, and all below them. -/
def Cov (a : Ar) (s y : Nat) : Prop := ∃ p k1 k2, a.kids p = k1 ++ s :: k2 ∧ ∃ c, c ∈ s :: k2 ∧ a.Wn y c

theorem Wn.kid {a : Ar} (h : a.Ok) {y t : Nat} (w : a.Wn y t) (hne : y ≠ t) : ∃ c, c ∈ a.kids t ∧ a.Wn y c := by
  obtain ⟨k, e⟩ := w
  induction k generalizing y with
  | zero => exact absurd (by simpa [anc] using e) hne
  | succ k ih =>
    cases hu : a.up y with
    | none => simp [anc, hu] at e
    | some q =>
      have e2 : a.anc k q = Option.some t := by simpa [anc, hu] using e
      by_cases hq : q = t
      · subst hq; exact ⟨y, (h.link q y).2 hu, Wn.refl a y⟩
      · obtain ⟨c, h1, h2⟩ := ih hq e2
        exact ⟨c, h1, Wn.step hu h2⟩

theorem Ok.cov_first {a : Ar} (h : a.Ok) {y t : Nat} (w : a.Wn y t) (hne : y ≠ t) : ∃ s, s ∈ opt (a.raw t).fi ∧ a.Cov s y := by
  obtain ⟨c, h1, h2⟩ := Wn.kid h w hne
  cases hk : a.kids t with
  | nil => rw [hk] at h1; cases h1
  | cons s r =>
    refine ⟨s, by show s ∈ opt (hdI (a.kids t)); rw [opt_hd hk]; simp, t, [], r, by rw [hk]; rfl, c, by rw [← hk]; exact h1, h2⟩

theorem Ok.cov_step {a : Ar} (h : a.Ok) {s y : Nat} (c : a.Cov s y) : y = s ∨ ∃ x, (x ∈ opt (a.raw s).be ∨ x ∈ opt (a.raw s).fi) ∧ a.Cov x y := by
  obtain ⟨p, k1, k2, e, c, hc, hw⟩ := c
  rcases List.mem_cons.1 hc with rfl | hc
  · by_cases hy : y = c
    · exact .inl hy
    · obtain ⟨x, h1, h2⟩ := h.cov_first hw hy
      exact .inr ⟨x, .inr h1, h2⟩
  · cases hk : k2 with
    | nil => rw [hk] at hc; cases hc
    | cons x r =>
      refine .inr ⟨x, .inl ?_, p, k1 ++ [s], r, by rw [e, hk]; simp, c, by rw [← hk]; exact hc, hw⟩
      rw [(h.chain e).1, opt_hd hk]; simp

/-- isWithin under way: at cur; L has been left below, P counted, S is the pile. -/
structure Wi (a : Ar) (n0 top cur : Nat) (L P S : List Nat) : Prop where
  nod : L.Nodup
  len : P.length = L.length
  anc' : a.anc L.length n0 = some cur
  eqv : a.Wn n0 top ↔ a.Wn cur top
  lft : ∀ z, z ∈ L → z ≠ top ∧ (a.Wn n0 top → a.Wn z top) ∧ ¬ a.Wn cur z
  cov : ∀ y, a.Wn y top → y ≠ top → y ∈ P ∨ ∃ s, s ∈ S ∧ a.Cov s y
  lt : cur < a.n
  all : ∀ s, s ∈ S → s < a.n ∧ ∃ p, a.up s = some p

theorem anc_succ (a : Ar) : ∀ (k : Nat) {x y z : Nat}, a.anc k x = some y → a.up y = some z → a.anc (k + 1) x = some z
  | 0, x, y, z, h, hz => by
    obtain rfl : x = y := by simpa [anc] using h
    simp [anc, hz]
  | k + 1, x, y, z, h, hz => by
    cases hu : a.up x with
    | none => simp [anc, hu] at h
    | some q =>
      have h2 : a.anc k q = some y := by simpa [anc, hu] using h
      have := anc_succ a k h2 hz
      show (a.up x).bind (a.anc (k + 1)) = some z
      rw [hu]; exact this

theorem Ok.opt_fi {a : Ar} (h : a.Ok) (t : Nat) : ∀ s, s ∈ opt (a.raw t).fi → s < a.n ∧ ∃ p, a.up s = some p := by
  intro s hs
  cases hk : a.kids t with
  | nil => replace hs : s ∈ opt (hdI (a.kids t)) := hs
           rw [hk] at hs; simp [opt, hdI] at hs
  | cons x r =>
    replace hs : s ∈ opt (hdI (a.kids t)) := hs
    rw [opt_hd hk, List.mem_singleton] at hs
    have : a.up s = some t := (h.link t s).1 (by rw [hk, hs]; simp)
    exact ⟨(h.lt this).1, t, this⟩

theorem Ok.opt_be {a : Ar} (h : a.Ok) {t p : Nat} (hu : a.up t = some p) : ∀ s, s ∈ opt (a.raw t).be → s < a.n ∧ ∃ p, a.up s = some p := by
  intro s hs
  obtain ⟨k1, k2, e, _⟩ := h.split hu
  rw [(h.chain e).1] at hs
  cases hk : k2 with
  | nil => rw [hk] at hs; simp [opt, hdI] at hs
  | cons x r =>
    rw [opt_hd hk, List.mem_singleton] at hs
    have : a.up s = some p := (h.link p s).1 (by rw [e, hk, hs]; simp)
    exact ⟨(h.lt this).1, p, this⟩

theorem Ok.wi_start {a : Ar} (h : a.Ok) {n0 top : Nat} (hn : n0 < a.n) : a.Wi n0 top n0 [] [] (opt (a.raw top).fi) :=
  ⟨List.nodup_nil, rfl, rfl, Iff.rfl, fun z hz => (by cases hz), fun y hw hy => .inr (h.cov_first hw hy), hn, h.opt_fi top⟩

theorem Wi.step {a : Ar} (h : a.Ok) {n0 top cur q c : Nat} {L P S : List Nat} (i : a.Wi n0 top cur L P (S ++ [c])) (hne : cur ≠ top) (hu : a.up cur = some q) :
    a.Wi n0 top q (cur :: L) (c :: P) (S ++ opt (a.raw c).be ++ opt (a.raw c).fi) := by
  have hc := i.all c (by simp)
  obtain ⟨pc, hpc⟩ := hc.2
  refine ⟨List.nodup_cons.2 ⟨fun hm => (i.lft cur hm).2.2 (Wn.refl a cur), i.nod⟩, by simp [i.len], anc_succ a _ i.anc' hu, i.eqv.trans ((Wn.some hu).trans ⟨fun h => h.resolve_left hne, .inr⟩), fun z hz => ?_, fun y hw hy => ?_, (h.lt hu).2, fun s hs => ?_⟩
  · rcases List.mem_cons.1 hz with rfl | hz
    · exact ⟨hne, i.eqv.1, h.not_up hu⟩
    · obtain ⟨h1, h2, h3⟩ := i.lft z hz
      exact ⟨h1, h2, fun hw => h3 (Wn.step hu hw)⟩
  · rcases i.cov y hw hy with h1 | ⟨s, h1, h2⟩
    · exact .inl (List.mem_cons_of_mem _ h1)
    · rcases List.mem_append.1 h1 with h1 | h1
      · exact .inr ⟨s, by simp [h1], h2⟩
      · obtain rfl := List.mem_singleton.1 h1
        rcases h.cov_step h2 with rfl | ⟨x, hx, h3⟩
        · exact .inl (by simp)
        · exact .inr ⟨x, by rcases hx with hx | hx <;> simp [hx], h3⟩
  · rw [List.mem_append, List.mem_append] at hs
    rcases hs with (hs | hs) | hs
    · exact i.all s (by simp [hs])
    · exact h.opt_be hpc s hs
    · exact h.opt_fi c s hs

theorem Wi.top_yes {a : Ar} {n0 top : Nat} {L P S : List Nat} (i : a.Wi n0 top top L P S) : a.Wn n0 top := i.eqv.2 (Wn.refl a top)
theorem Wi.none_no {a : Ar} {n0 top cur : Nat} {L P S : List Nat} (i : a.Wi n0 top cur L P S) (hne : cur ≠ top) (hu : a.up cur = Option.none) : ¬ a.Wn n0 top :=
  fun hw => hne ((Wn.none hu).1 (i.eqv.1 hw))
theorem Wi.empty_no {a : Ar} {n0 top cur : Nat} {L P : List Nat} (i : a.Wi n0 top cur L P []) (hne : cur ≠ top) : ¬ a.Wn n0 top := fun hw => by
  have hin : ∀ y, a.Wn y top → y ≠ top → y ∈ P := fun y h1 h2 => by
    rcases i.cov y h1 h2 with h | ⟨s, h, _⟩
    · exact h
    · cases h
  have := pig_sub (cur :: L) P (List.nodup_cons.2 ⟨fun hm => (i.lft cur hm).2.2 (Wn.refl a cur), i.nod⟩) (fun y hy => by
    rcases List.mem_cons.1 hy with rfl | hy
    · exact hin y (i.eqv.1 hw) hne
    · obtain ⟨h1, h2, _⟩ := i.lft y hy
      exact hin y (h2 hw) h1)
  have h2 := i.len
  simp only [List.length_cons] at this
  omega

theorem Ok.raw_new {a : Ar} (h : a.Ok) (l : Lb) : (a.new l).raw = fun y => if y = a.n then ⟨l, -1, -1, -1, -1, -1⟩ else a.raw y := by
  funext y
  by_cases hy : y = a.n
  · have h1 := h.out a.n (Nat.le_refl _)
    have h2 : (a.new l).kids y = [] := by rw [hy]; exact h1.1
    have h3 : (a.new l).up y = none := by rw [hy]; exact h1.2
    rw [if_pos hy]
    refine Pn.eq ?_ ?_ ?_ ?_ ?_ ?_
    · show (if y = a.n then l else a.lb y) = l; rw [if_pos hy]
    · show upI ((a.new l).up y) = -1; rw [h3]; rfl
    · show hdI ((a.new l).kids y) = -1; rw [h2]; rfl
    · show laI ((a.new l).kids y) = -1; rw [h2]; rfl
    · exact raw_ah_none h3
    · exact raw_be_none h3
  · rw [if_neg hy]
    refine Pn.eq ?_ rfl rfl rfl rfl rfl
    show (if y = a.n then l else a.lb y) = a.lb y; rw [if_neg hy]

theorem raw_tell (a : Ar) (x : Nat) (l : Lb) : (a.tell x l).raw = sLb a.raw x l := by
  funext y
  unfold sLb
  by_cases hy : y = x
  · subst hy
    rw [if_pos rfl]
    refine Pn.eq ?_ rfl rfl rfl rfl rfl
    show (if y = y then l else a.lb y) = l; rw [if_pos rfl]
  · rw [if_neg hy]
    refine Pn.eq ?_ rfl rfl rfl rfl rfl
    show (if y = x then l else a.lb y) = a.lb y; rw [if_neg hy]

/-- Nothing is cut where there is no parent. -/
theorem cut_none {a : Ar} {x : Nat} (hu : a.up x = none) : a.cut x = a := by
  cases a with
  | mk n lb kids up =>
    simp only [cut, Ar.mk.injEq, true_and]
    have hu' : up x = none := hu
    refine ⟨funext fun y => ?_, funext fun y => ?_⟩
    · rw [hu', if_neg (fun e => by cases e)]
    · by_cases hy : y = x
      · rw [if_pos hy, hy]; exact hu'.symm
      · rw [if_neg hy]

/-- These nodes, with all below them, are that row of trees; all lie from lo to hi. -/
def Is (a : Ar) (lo hi : Nat) : Fo → List Nat → Prop
  | ⟨false, _, _, _⟩, ks => ks = []
  | ⟨true, l, k, r⟩, ks => ∃ x xs, ks = x :: xs ∧ (lo ≤ x ∧ x < hi) ∧ a.lb x = l rfl ∧ Is a lo hi (k rfl) (a.kids x) ∧ Is a lo hi (r rfl) xs
theorem is_nil {a : Ar} {lo hi : Nat} {ks : List Nat} : a.Is lo hi .nil ks ↔ ks = [] := Iff.rfl
theorem is_cons {a : Ar} {lo hi : Nat} {l : Lb} {k r : Fo} {ks : List Nat} : a.Is lo hi (.cons l k r) ks ↔ ∃ x xs, ks = x :: xs ∧ (lo ≤ x ∧ x < hi) ∧ a.lb x = l ∧ a.Is lo hi k (a.kids x) ∧ a.Is lo hi r xs := Iff.rfl

theorem Is.keep {a b : Ar} {lo hi lo' hi' : Nat} (e : ∀ y, lo ≤ y → y < hi → b.lb y = a.lb y ∧ b.kids y = a.kids y) (h1 : lo' ≤ lo) (h2 : hi ≤ hi') {f : Fo} : ∀ {ks}, a.Is lo hi f ks → b.Is lo' hi' f ks := by
  refine Fo.ind (P := fun f => ∀ {ks}, a.Is lo hi f ks → b.Is lo' hi' f ks) (fun {ks} h => h) (fun l k r hk hr {ks} h => ?_) f
  obtain ⟨x, xs, e1, e2, e3, e4, e5⟩ := is_cons.1 h
  obtain ⟨g1, g2⟩ := e x e2.1 e2.2
  exact is_cons.2 ⟨x, xs, e1, ⟨by omega, by omega⟩, by rw [g1]; exact e3, by rw [g2]; exact hk e4, hr e5⟩

theorem Is.fold {a : Ar} (h : a.Ok) {lo hi : Nat} {f : Fo} : ∀ {ks}, a.Is lo hi f ks → ks.foldr (fun c r => Fo.cons (a.lb c) (a.below c) r) .nil = f := by
  refine Fo.ind (P := fun f => ∀ {ks}, a.Is lo hi f ks → ks.foldr (fun c r => Fo.cons (a.lb c) (a.below c) r) .nil = f) (fun {ks} h => by rw [is_nil.1 h]; rfl) (fun l k r hk hr {ks} hh => ?_) f
  obtain ⟨x, xs, rfl, e2, e3, e4, e5⟩ := is_cons.1 hh
  rw [List.foldr_cons, hr e5, e3, h.below_kids, hk e4]

/-- Few attributes, none too long, no two of one name. -/
structure Tiny (m : Nat) (l : List Att) : Prop where
  len : l.length ≤ m
  each : ∀ a, a ∈ l → a.1.size ≤ 20 ∧ a.2.size ≤ 30
  dist : Dist l

theorem Tiny.nil (m : Nat) : Tiny m [] := ⟨Nat.zero_le _, fun _ h => (by cases h), List.Pairwise.nil⟩
theorem Tiny.mono {m n : Nat} {l : List Att} (h : Tiny m l) (hn : m ≤ n) : Tiny n l := ⟨by have := h.len; omega, h.each, h.dist⟩
theorem Tiny.fits {m : Nat} {l : List Att} (h : Tiny m l) : fits l := fun a ha => by have := h.each a ha; omega

theorem each_more {P : Att → Prop} (m : List Att) : ∀ {l : List Att}, (∀ a, a ∈ l → P a) → (∀ a, a ∈ m → P a) → ∀ a, a ∈ more l m → P a := by
  induction m with
  | nil => exact fun h _ => h
  | cons b m ih =>
    intro l h1 h2
    refine ih (l := add l b) (fun a ha => ?_) (fun a ha => h2 a (List.mem_cons_of_mem _ ha))
    unfold add at ha
    split at ha
    · exact h1 a ha
    · rcases List.mem_append.1 ha with ha | ha
      · exact h1 a ha
      · exact h2 a (by rw [List.mem_singleton.1 ha]; simp)

theorem Tiny.more {m : Nat} {l q : List Att} (h : Tiny m l) (hq : q.length ≤ 6) (hs : ∀ a, a ∈ q → a.1.size ≤ 20 ∧ a.2.size ≤ 30) : Tiny (m + 6) (more l q) :=
  ⟨by have := h.len; have := more_len q l; omega, each_more q h.each hs, dist_more q h.dist⟩

theorem Tiny.uniq {q : List Att} (hq : q.length ≤ 6) (hs : ∀ a, a ∈ q → a.1.size ≤ 20 ∧ a.2.size ≤ 30) : Tiny 6 (uniq q) := by
  have := (Tiny.nil 0).more hq hs
  exact this

/-- Only what was made unique matters. -/
theorem more_uniq (l m : List Att) : _root_.Go.Proofs.YtpkppobkagdhkaaGreat.more l (_root_.Go.Proofs.YtpkppobkagdhkaaGreat.uniq m) = _root_.Go.Proofs.YtpkppobkagdhkaaGreat.more l m := by
  suffices h : ∀ n, ∀ m : List Att, m.length = n → _root_.Go.Proofs.YtpkppobkagdhkaaGreat.more l (_root_.Go.Proofs.YtpkppobkagdhkaaGreat.uniq m) = _root_.Go.Proofs.YtpkppobkagdhkaaGreat.more l m from h _ m rfl
  intro n
  induction n with
  | zero => intro m hm; rw [List.eq_nil_of_length_eq_zero hm]; rfl
  | succ n ih =>
    intro m hm
    rcases List.eq_nil_or_concat m with rfl | ⟨q, a, rfl⟩
    · rfl
    · rw [List.concat_eq_append] at hm ⊢
      have hq : q.length = n := by simpa using hm
      have e1 : _root_.Go.Proofs.YtpkppobkagdhkaaGreat.uniq (q ++ [a]) = add (_root_.Go.Proofs.YtpkppobkagdhkaaGreat.uniq q) a := more_snoc [] q a
      have hh : hasN (_root_.Go.Proofs.YtpkppobkagdhkaaGreat.uniq q) a.1 = hasN q a.1 := by unfold hasN; rw [getF_uniq]
      rw [e1, more_snoc]
      unfold add
      rw [hh]
      by_cases hN : hasN q a.1 = true
      · rw [if_pos hN, ih q hq]
        have : hasN (_root_.Go.Proofs.YtpkppobkagdhkaaGreat.more l q) a.1 = true := by
          unfold hasN at hN ⊢
          rw [getF_more]
          cases getF l a.1 with
          | none => exact hN
          | some y => rfl
        rw [if_pos this]
      · rw [if_neg hN, more_snoc, ih q hq]; rfl

/-- How much there may be behind so many calls. -/
structure Sz (k : Nat) (a : Ar) : Prop where
  n : a.n ≤ 1 + 2 * k
  lbs : ∀ x, (a.lb x).name.size ≤ 10 ∧ (a.lb x).text.size ≤ 10 * k ∧ Tiny (6 * k) (a.lb x).attrs

theorem Sz.succ {k m : Nat} {a : Ar} (h : a.Sz k) (hm : k ≤ m) : a.Sz m :=
  ⟨by have := h.n; omega, fun x => ⟨(h.lbs x).1, by have := (h.lbs x).2.1; omega, (h.lbs x).2.2.mono (by omega)⟩⟩
theorem Sz.same {k : Nat} {a b : Ar} (h : a.Sz k) (h1 : b.n = a.n) (h2 : b.lb = a.lb) : b.Sz k := ⟨by rw [h1]; exact h.n, by rw [h2]; exact h.lbs⟩
theorem Sz.new {k : Nat} {a : Ar} (h : a.Sz k) {l : Lb} (h1 : l.name.size ≤ 10) (h2 : l.text.size ≤ 10) (h3 : Tiny 6 l.attrs) : (a.new l).Sz (k + 1) := by
  refine ⟨by have := h.n; show a.n + 1 ≤ _; omega, fun x => ?_⟩
  show ((if x = a.n then l else a.lb x) : Lb).name.size ≤ 10 ∧ _ ∧ Tiny _ ((if x = a.n then l else a.lb x) : Lb).attrs
  by_cases hx : x = a.n
  · rw [if_pos hx]; exact ⟨h1, by show ((if x = a.n then l else a.lb x) : Lb).text.size ≤ _; rw [if_pos hx]; omega, h3.mono (by omega)⟩
  · rw [if_neg hx]; exact ⟨(h.lbs x).1, by show ((if x = a.n then l else a.lb x) : Lb).text.size ≤ _; rw [if_neg hx]; have := (h.lbs x).2.1; omega, (h.lbs x).2.2.mono (by omega)⟩
theorem Sz.newT {k : Nat} {a : Ar} (h : a.Sz k) {l : Lb} (h1 : l.name.size ≤ 10) (h2 : l.text.size ≤ 10) (h3 : Tiny 6 l.attrs) : (a.newT l).Sz (k + 1) := by
  have g := h.new h1 h2 h3
  refine ⟨by have := h.n; show a.n + 1 + 1 ≤ _; omega, fun x => ?_⟩
  have e : (a.newT l).lb x = if x = a.n + 1 then (6, 0, ⟨#[]⟩, [], ⟨#[]⟩) else (a.new l).lb x := rfl
  by_cases hx : x = a.n + 1
  · rw [e, if_pos hx]; exact ⟨Nat.zero_le _, Nat.zero_le _, Tiny.nil _⟩
  · rw [e, if_neg hx]; exact g.lbs x
theorem Sz.tell {k m : Nat} {a : Ar} (h : a.Sz k) (hm : k ≤ m) (x : Nat) {l : Lb} (h1 : l.name.size ≤ 10) (h2 : l.text.size ≤ 10 * m) (h3 : Tiny (6 * m) l.attrs) : (a.tell x l).Sz m := by
  refine ⟨by have := h.n; show a.n ≤ _; omega, fun y => ?_⟩
  have e : (a.tell x l).lb y = if y = x then l else a.lb y := rfl
  by_cases hy : y = x
  · rw [e, if_pos hy]; exact ⟨h1, h2, h3⟩
  · rw [e, if_neg hy]; exact (h.succ hm).lbs y

theorem Sz.first : first.Sz 0 := ⟨Nat.le_refl _, fun _ => ⟨Nat.zero_le _, Nat.zero_le _, Tiny.nil _⟩⟩

theorem Sz.mkF {k : Nat} {a : Ar} (h : a.Sz k) (kind ns : Int) {name : ByteArray} {u : List Att} {text : ByteArray} (h1 : name.size ≤ 10) (h2 : text.size ≤ 10) (h3 : Tiny 6 u) : (a.mkF kind ns name u text).1.Sz (k + 1) := by
  unfold Ar.mkF
  have g := h.succ (Nat.le_succ k)
  (repeat' split)
  · exact g
  · exact g
  · exact h.newT h1 (Nat.zero_le _) h3
  · exact h.new h1 (Nat.zero_le _) h3
  · exact h.new h1 (Nat.zero_le _) (Tiny.nil _)
  · exact h.new (Nat.zero_le _) h2 (Tiny.nil _)
theorem Sz.appF {k : Nat} {a : Ar} (h : a.Sz k) (p x : Int) : (a.appF p x).1.Sz k := by
  unfold Ar.appF
  (repeat' split) <;> first | exact h | exact h.same rfl rfl
theorem Sz.befF {k : Nat} {a : Ar} (h : a.Sz k) (p x : Int) : (a.befF p x).1.Sz k := by
  unfold Ar.befF
  (repeat' split) <;> first | exact h | exact h.same rfl rfl
theorem Sz.detF {k : Nat} {a : Ar} (h : a.Sz k) (x : Int) : (a.detF x).1.Sz k := by
  unfold Ar.detF
  (repeat' split) <;> first | exact h | exact h.same rfl rfl
theorem Sz.movF {k : Nat} {a : Ar} (h : a.Sz k) (hf : a.Ful) (f t : Int) : (a.movF f t).1.Sz k := by
  unfold Ar.movF
  split
  · exact h
  rename_i h1
  split
  · exact h
  rename_i h2
  split
  · exact h
  rename_i h4
  simp only [not_or, Bool.not_eq_false, Bool.not_eq_true] at h1 h2 h4
  have ht := (there_lt h1.2).1
  obtain ⟨_, e1, e2⟩ := Ful.movs (f := f.toNat) _ a hf (hf.one _) (fun x hx => (hf.link _ x).1 hx) ht h2.2 (wn_false hf.toOk ht h4)
  exact h.same e1 e2
theorem size_cat (s t : ByteArray) : (s ++ t).size = s.size + t.size := ByteArray.size_append
theorem Sz.txt {k : Nat} {a : Ar} (h : a.Sz k) (p i : Nat) {s : ByteArray} (hs : s.size ≤ 10) : (a.txt p i s).Sz (k + 1) := by
  unfold Ar.txt
  have g := h.succ (Nat.le_succ k)
  have hn : ((a.new (4, 0, ⟨#[]⟩, [], s)).put p i a.n).Sz (k + 1) := (h.new (l := (4, 0, ⟨#[]⟩, [], s)) (Nat.zero_le _) hs (Tiny.nil _)).same rfl rfl
  split
  · exact g
  split
  · split
    · rename_i z _ _
      have gl := h.lbs z
      refine h.tell (Nat.le_succ k) z gl.1 ?_ (gl.2.2.mono (by omega))
      show ((a.lb z).text ++ s).size ≤ _
      rw [size_cat]
      have := gl.2.1
      omega
    · exact hn
  · exact hn
theorem Sz.wrF {k : Nat} {a : Ar} (h : a.Sz k) (p : Int) {s : ByteArray} (hs : s.size ≤ 10) : (a.wrF p s).1.Sz (k + 1) := by
  unfold Ar.wrF
  (repeat' split) <;> first | exact h.succ (Nat.le_succ k) | exact h.txt _ _ hs
theorem Sz.wbF {k : Nat} {a : Ar} (h : a.Sz k) (p : Int) {s : ByteArray} (hs : s.size ≤ 10) : (a.wbF p s).1.Sz (k + 1) := by
  unfold Ar.wbF
  (repeat' split) <;> first | exact h.succ (Nat.le_succ k) | exact h.txt _ _ hs
theorem Sz.morF {k : Nat} {a : Ar} (h : a.Sz k) (x : Int) {q : List Att} (hq : q.length ≤ 6) (hs : ∀ a, a ∈ q → a.1.size ≤ 20 ∧ a.2.size ≤ 30) : (a.morF x (fun l => _root_.Go.Proofs.YtpkppobkagdhkaaGreat.more l q)).1.Sz (k + 1) := by
  unfold Ar.morF
  split
  · exact h.succ (Nat.le_succ k)
  split
  · exact h.succ (Nat.le_succ k)
  · have gl := h.lbs x.toNat
    exact h.tell (Nat.le_succ k) _ gl.1 (by show (a.lb x.toNat).text.size ≤ _; have := gl.2.1; omega) ((gl.2.2.more hq hs).mono (by omega))

end Ar
end Go.Proofs.YtpkppobkagdhkaaGreat
