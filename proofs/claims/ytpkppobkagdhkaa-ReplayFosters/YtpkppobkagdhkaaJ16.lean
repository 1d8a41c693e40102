/-
  Joined: LotsD.
-/
import Derived.Test.YtpkppobkagdhkaaJ15

/-
  Arenas by themselves: how isWithin goes up and counts; how Of lays a tree; sizes: no program.
-/
namespace Go.Proofs.Ytpkppobkagdhkaa
set_option linter.unusedVariables false
set_option linter.unusedSimpArgs false

/-- Numbers, each once, all of which stand in another row, are no more. -/
theorem pig_sub : ∀ (l m : List Nat), l.Nodup → (∀ x ∈ l, x ∈ m) → l.length ≤ m.length
  | [], _, _, _ => Nat.zero_le _
  | x :: l, m, hn, h => by
    have hn' := List.nodup_cons.1 hn
    have h1 := pig_sub l (m.erase x) hn'.2 (fun y hy => by
      have hyx : y ≠ x := fun e => hn'.1 (e ▸ hy)
      exact (List.mem_erase_of_ne hyx).2 (h y (List.mem_cons_of_mem _ hy)))
    have hx := h x (List.mem_cons_self ..)
    rw [List.length_erase_of_mem hx] at h1
    have := List.length_pos_of_mem hx
    simp only [List.length_cons]
    omega

/-- A node, if it is one. -/
def opt (z : Int) : List Nat := if z = -1 then [] else [z.toNat]

theorem opt_hd {k : List Nat} {s : Nat} {r : List Nat} (e : k = s :: r) : opt (hdI k) = [s] := by
  subst e
  unfold opt
  rw [if_neg (fun e => by have := hdI_neg.1 e; cases this)]
  rfl

theorem opt_len (z : Int) : (opt z).length ≤ 1 := by unfold opt; split <;> simp

namespace Ar

/-- The kid behind one. -/
theorem Ok.chain {a : Ar} (h : a.Ok) {p : Nat} {k1 k2 : List Nat} {y : Nat} (e : a.kids p = k1 ++ y :: k2) : (a.raw y).be = hdI k2 ∧ (a.raw y).ah = laI k1 := by
  have hu : a.up y = some p := (h.link p y).1 (by rw [e]; simp)
  have hn := h.one p
  rw [e, List.nodup_append] at hn
  have h1 : y ∉ k1 := fun hm => hn.2.2 y hm y (by simp) rfl
  exact ⟨by rw [raw_be hu, e, aft_at h1], by rw [raw_ah hu, e, bef_at h1]⟩

/-- What still is to be counted: one of the pile, those behind it, and all below them. -/
def Cov (a : Ar) (s y : Nat) : Prop := ∃ p k1 k2, a.kids p = k1 ++ s :: k2 ∧ ∃ c, c ∈ s :: k2 ∧ a.Wn y c

theorem Wn.kid {a : Ar} (h : a.Ok) {y t : Nat} (w : a.Wn y t) (hne : y ≠ t) : ∃ c, c ∈ a.kids t ∧ a.Wn y c := by
  obtain ⟨k, e⟩ := w
  induction k generalizing y with
  | zero => exact absurd (by simpa [anc] using e) hne
  | succ k ih =>
    cases hu : a.up y with
    | none => simp [anc, hu] at e
    | some q =>
      have e2 : a.anc k q = Option.some t := by simpa [anc, hu] using e
      by_cases hq : q = t
      · subst hq; exact ⟨y, (h.link q y).2 hu, Wn.refl a y⟩
      · obtain ⟨c, h1, h2⟩ := ih hq e2
        exact ⟨c, h1, Wn.step hu h2⟩

theorem Ok.cov_first {a : Ar} (h : a.Ok) {y t : Nat} (w : a.Wn y t) (hne : y ≠ t) : ∃ s, s ∈ opt (a.raw t).fi ∧ a.Cov s y := by
  obtain ⟨c, h1, h2⟩ := Wn.kid h w hne
  cases hk : a.kids t with
  | nil => rw [hk] at h1; cases h1
  | cons s r =>
    refine ⟨s, by show s ∈ opt (hdI (a.kids t)); rw [opt_hd hk]; simp, t, [], r, by rw [hk]; rfl, c, by rw [← hk]; exact h1, h2⟩

theorem Ok.cov_step {a : Ar} (h : a.Ok) {s y : Nat} (c : a.Cov s y) : y = s ∨ ∃ x, (x ∈ opt (a.raw s).be ∨ x ∈ opt (a.raw s).fi) ∧ a.Cov x y := by
  obtain ⟨p, k1, k2, e, c, hc, hw⟩ := c
  rcases List.mem_cons.1 hc with rfl | hc
  · by_cases hy : y = c
    · exact .inl hy
    · obtain ⟨x, h1, h2⟩ := h.cov_first hw hy
      exact .inr ⟨x, .inr h1, h2⟩
  · cases hk : k2 with
    | nil => rw [hk] at hc; cases hc
    | cons x r =>
      refine .inr ⟨x, .inl ?_, p, k1 ++ [s], r, by rw [e, hk]; simp, c, by rw [← hk]; exact hc, hw⟩
      rw [(h.chain e).1, opt_hd hk]; simp

/-- isWithin under way: at cur; L has been left below, P counted, S is the pile. -/
structure Wi (a : Ar) (n0 top cur : Nat) (L P S : List Nat) : Prop where
  nod : L.Nodup
  len : P.length = L.length
  anc' : a.anc L.length n0 = some cur
  eqv : a.Wn n0 top ↔ a.Wn cur top
  lft : ∀ z, z ∈ L → z ≠ top ∧ (a.Wn n0 top → a.Wn z top) ∧ ¬ a.Wn cur z
  cov : ∀ y, a.Wn y top → y ≠ top → y ∈ P ∨ ∃ s, s ∈ S ∧ a.Cov s y
  lt : cur < a.n
  all : ∀ s, s ∈ S → s < a.n ∧ ∃ p, a.up s = some p

theorem anc_succ (a : Ar) : ∀ (k : Nat) {x y z : Nat}, a.anc k x = some y → a.up y = some z → a.anc (k + 1) x = some z
  | 0, x, y, z, h, hz => by
    obtain rfl : x = y := by simpa [anc] using h
    simp [anc, hz]
  | k + 1, x, y, z, h, hz => by
    cases hu : a.up x with
    | none => simp [anc, hu] at h
    | some q =>
      have h2 : a.anc k q = some y := by simpa [anc, hu] using h
      have := anc_succ a k h2 hz
      show (a.up x).bind (a.anc (k + 1)) = some z
      rw [hu]; exact this

theorem Ok.opt_fi {a : Ar} (h : a.Ok) (t : Nat) : ∀ s, s ∈ opt (a.raw t).fi → s < a.n ∧ ∃ p, a.up s = some p := by
  intro s hs
  cases hk : a.kids t with
  | nil => replace hs : s ∈ opt (hdI (a.kids t)) := hs
           rw [hk] at hs; simp [opt, hdI] at hs
  | cons x r =>
    replace hs : s ∈ opt (hdI (a.kids t)) := hs
    rw [opt_hd hk, List.mem_singleton] at hs
    have : a.up s = some t := (h.link t s).1 (by rw [hk, hs]; simp)
    exact ⟨(h.lt this).1, t, this⟩

theorem Ok.opt_be {a : Ar} (h : a.Ok) {t p : Nat} (hu : a.up t = some p) : ∀ s, s ∈ opt (a.raw t).be → s < a.n ∧ ∃ p, a.up s = some p := by
  intro s hs
  obtain ⟨k1, k2, e, _⟩ := h.split hu
  rw [(h.chain e).1] at hs
  cases hk : k2 with
  | nil => rw [hk] at hs; simp [opt, hdI] at hs
  | cons x r =>
    rw [opt_hd hk, List.mem_singleton] at hs
    have : a.up s = some p := (h.link p s).1 (by rw [e, hk, hs]; simp)
    exact ⟨(h.lt this).1, p, this⟩

theorem Ok.wi_start {a : Ar} (h : a.Ok) {n0 top : Nat} (hn : n0 < a.n) : a.Wi n0 top n0 [] [] (opt (a.raw top).fi) :=
  ⟨List.nodup_nil, rfl, rfl, Iff.rfl, fun z hz => (by cases hz), fun y hw hy => .inr (h.cov_first hw hy), hn, h.opt_fi top⟩

theorem Wi.step {a : Ar} (h : a.Ok) {n0 top cur q c : Nat} {L P S : List Nat} (i : a.Wi n0 top cur L P (S ++ [c])) (hne : cur ≠ top) (hu : a.up cur = some q) :
    a.Wi n0 top q (cur :: L) (c :: P) (S ++ opt (a.raw c).be ++ opt (a.raw c).fi) := by
  have hc := i.all c (by simp)
  obtain ⟨pc, hpc⟩ := hc.2
  refine ⟨List.nodup_cons.2 ⟨fun hm => (i.lft cur hm).2.2 (Wn.refl a cur), i.nod⟩, by simp [i.len], anc_succ a _ i.anc' hu, i.eqv.trans ((Wn.some hu).trans ⟨fun h => h.resolve_left hne, .inr⟩), fun z hz => ?_, fun y hw hy => ?_, (h.lt hu).2, fun s hs => ?_⟩
  · rcases List.mem_cons.1 hz with rfl | hz
    · exact ⟨hne, i.eqv.1, h.not_up hu⟩
    · obtain ⟨h1, h2, h3⟩ := i.lft z hz
      exact ⟨h1, h2, fun hw => h3 (Wn.step hu hw)⟩
  · rcases i.cov y hw hy with h1 | ⟨s, h1, h2⟩
    · exact .inl (List.mem_cons_of_mem _ h1)
    · rcases List.mem_append.1 h1 with h1 | h1
      · exact .inr ⟨s, by simp [h1], h2⟩
      · obtain rfl := List.mem_singleton.1 h1
        rcases h.cov_step h2 with rfl | ⟨x, hx, h3⟩
        · exact .inl (by simp)
        · exact .inr ⟨x, by rcases hx with hx | hx <;> simp [hx], h3⟩
  · rw [List.mem_append, List.mem_append] at hs
    rcases hs with (hs | hs) | hs
    · exact i.all s (by simp [hs])
    · exact h.opt_be hpc s hs
    · exact h.opt_fi c s hs

theorem Wi.top_yes {a : Ar} {n0 top : Nat} {L P S : List Nat} (i : a.Wi n0 top top L P S) : a.Wn n0 top := i.eqv.2 (Wn.refl a top)
theorem Wi.none_no {a : Ar} {n0 top cur : Nat} {L P S : List Nat} (i : a.Wi n0 top cur L P S) (hne : cur ≠ top) (hu : a.up cur = Option.none) : ¬ a.Wn n0 top :=
  fun hw => hne ((Wn.none hu).1 (i.eqv.1 hw))
theorem Wi.empty_no {a : Ar} {n0 top cur : Nat} {L P : List Nat} (i : a.Wi n0 top cur L P []) (hne : cur ≠ top) : ¬ a.Wn n0 top := fun hw => by
  have hin : ∀ y, a.Wn y top → y ≠ top → y ∈ P := fun y h1 h2 => by
    rcases i.cov y h1 h2 with h | ⟨s, h, _⟩
    · exact h
    · cases h
  have := pig_sub (cur :: L) P (List.nodup_cons.2 ⟨fun hm => (i.lft cur hm).2.2 (Wn.refl a cur), i.nod⟩) (fun y hy => by
    rcases List.mem_cons.1 hy with rfl | hy
    · exact hin y (i.eqv.1 hw) hne
    · obtain ⟨h1, h2, _⟩ := i.lft y hy
      exact hin y (h2 hw) h1)
  have h2 := i.len
  simp only [List.length_cons] at this
  omega

theorem Ok.raw_new {a : Ar} (h : a.Ok) (l : Lb) : (a.new l).raw = fun y => if y = a.n then ⟨l, -1, -1, -1, -1, -1⟩ else a.raw y := by
  funext y
  by_cases hy : y = a.n
  · have h1 := h.out a.n (Nat.le_refl _)
    have h2 : (a.new l).kids y = [] := by rw [hy]; exact h1.1
    have h3 : (a.new l).up y = none := by rw [hy]; exact h1.2
    rw [if_pos hy]
    refine Pn.eq ?_ ?_ ?_ ?_ ?_ ?_
    · show (if y = a.n then l else a.lb y) = l; rw [if_pos hy]
    · show upI ((a.new l).up y) = -1; rw [h3]; rfl
    · show hdI ((a.new l).kids y) = -1; rw [h2]; rfl
    · show laI ((a.new l).kids y) = -1; rw [h2]; rfl
    · exact raw_ah_none h3
    · exact raw_be_none h3
  · rw [if_neg hy]
    refine Pn.eq ?_ rfl rfl rfl rfl rfl
    show (if y = a.n then l else a.lb y) = a.lb y; rw [if_neg hy]

theorem raw_tell (a : Ar) (x : Nat) (l : Lb) : (a.tell x l).raw = sLb a.raw x l := by
  funext y
  unfold sLb
  by_cases hy : y = x
  · subst hy
    rw [if_pos rfl]
    refine Pn.eq ?_ rfl rfl rfl rfl rfl
    show (if y = y then l else a.lb y) = l; rw [if_pos rfl]
  · rw [if_neg hy]
    refine Pn.eq ?_ rfl rfl rfl rfl rfl
    show (if y = x then l else a.lb y) = a.lb y; rw [if_neg hy]

/-- Nothing is cut where there is no parent. -/
theorem cut_none {a : Ar} {x : Nat} (hu : a.up x = none) : a.cut x = a := by
  cases a with
  | mk n lb kids up =>
    simp only [cut, Ar.mk.injEq, true_and]
    have hu' : up x = none := hu
    refine ⟨funext fun y => ?_, funext fun y => ?_⟩
    · rw [hu', if_neg (fun e => by cases e)]
    · by_cases hy : y = x
      · rw [if_pos hy, hy]; exact hu'.symm
      · rw [if_neg hy]

/-- These nodes, with all below them, are that row of trees; all lie from lo to hi. -/
def Is (a : Ar) (lo hi : Nat) : Fo → List Nat → Prop
  | ⟨false, _, _, _⟩, ks => ks = []
  | ⟨true, l, k, r⟩, ks => ∃ x xs, ks = x :: xs ∧ (lo ≤ x ∧ x < hi) ∧ a.lb x = l rfl ∧ Is a lo hi (k rfl) (a.kids x) ∧ Is a lo hi (r rfl) xs
theorem is_nil {a : Ar} {lo hi : Nat} {ks : List Nat} : a.Is lo hi .nil ks ↔ ks = [] := Iff.rfl
theorem is_cons {a : Ar} {lo hi : Nat} {l : Lb} {k r : Fo} {ks : List Nat} : a.Is lo hi (.cons l k r) ks ↔ ∃ x xs, ks = x :: xs ∧ (lo ≤ x ∧ x < hi) ∧ a.lb x = l ∧ a.Is lo hi k (a.kids x) ∧ a.Is lo hi r xs := Iff.rfl

theorem Is.keep {a b : Ar} {lo hi lo' hi' : Nat} (e : ∀ y, lo ≤ y → y < hi → b.lb y = a.lb y ∧ b.kids y = a.kids y) (h1 : lo' ≤ lo) (h2 : hi ≤ hi') {f : Fo} : ∀ {ks}, a.Is lo hi f ks → b.Is lo' hi' f ks := by
  refine Fo.ind (P := fun f => ∀ {ks}, a.Is lo hi f ks → b.Is lo' hi' f ks) (fun {ks} h => h) (fun l k r hk hr {ks} h => ?_) f
  obtain ⟨x, xs, e1, e2, e3, e4, e5⟩ := is_cons.1 h
  obtain ⟨g1, g2⟩ := e x e2.1 e2.2
  exact is_cons.2 ⟨x, xs, e1, ⟨by omega, by omega⟩, by rw [g1]; exact e3, by rw [g2]; exact hk e4, hr e5⟩

theorem Is.fold {a : Ar} (h : a.Ok) {lo hi : Nat} {f : Fo} : ∀ {ks}, a.Is lo hi f ks → ks.foldr (fun c r => Fo.cons (a.lb c) (a.below c) r) .nil = f := by
  refine Fo.ind (P := fun f => ∀ {ks}, a.Is lo hi f ks → ks.foldr (fun c r => Fo.cons (a.lb c) (a.below c) r) .nil = f) (fun {ks} h => by rw [is_nil.1 h]; rfl) (fun l k r hk hr {ks} hh => ?_) f
  obtain ⟨x, xs, rfl, e2, e3, e4, e5⟩ := is_cons.1 hh
  rw [List.foldr_cons, hr e5, e3, h.below_kids, hk e4]

/-- Few attributes, none too long, no two of one name. -/
structure Tiny (m : Nat) (l : List Att) : Prop where
  len : l.length ≤ m
  each : ∀ a, a ∈ l → a.1.size ≤ 20 ∧ a.2.size ≤ 30
  dist : Dist l

theorem Tiny.nil (m : Nat) : Tiny m [] := ⟨Nat.zero_le _, fun _ h => (by cases h), List.Pairwise.nil⟩
theorem Tiny.mono {m n : Nat} {l : List Att} (h : Tiny m l) (hn : m ≤ n) : Tiny n l := ⟨by have := h.len; omega, h.each, h.dist⟩
theorem Tiny.fits {m : Nat} {l : List Att} (h : Tiny m l) : fits l := fun a ha => by have := h.each a ha; omega

theorem each_more {P : Att → Prop} (m : List Att) : ∀ {l : List Att}, (∀ a, a ∈ l → P a) → (∀ a, a ∈ m → P a) → ∀ a, a ∈ more l m → P a := by
  induction m with
  | nil => exact fun h _ => h
  | cons b m ih =>
    intro l h1 h2
    refine ih (l := add l b) (fun a ha => ?_) (fun a ha => h2 a (List.mem_cons_of_mem _ ha))
    unfold add at ha
    split at ha
    · exact h1 a ha
    · rcases List.mem_append.1 ha with ha | ha
      · exact h1 a ha
      · exact h2 a (by rw [List.mem_singleton.1 ha]; simp)

theorem Tiny.more {m : Nat} {l q : List Att} (h : Tiny m l) (hq : q.length ≤ 6) (hs : ∀ a, a ∈ q → a.1.size ≤ 20 ∧ a.2.size ≤ 30) : Tiny (m + 6) (more l q) :=
  ⟨by have := h.len; have := more_len q l; omega, each_more q h.each hs, dist_more q h.dist⟩

theorem Tiny.uniq {q : List Att} (hq : q.length ≤ 6) (hs : ∀ a, a ∈ q → a.1.size ≤ 20 ∧ a.2.size ≤ 30) : Tiny 6 (uniq q) := by
  have := (Tiny.nil 0).more hq hs
  exact this

/-- Only what was made unique matters. -/
theorem more_uniq (l m : List Att) : _root_.Go.Proofs.Ytpkppobkagdhkaa.more l (_root_.Go.Proofs.Ytpkppobkagdhkaa.uniq m) = _root_.Go.Proofs.Ytpkppobkagdhkaa.more l m := by
  suffices h : ∀ n, ∀ m : List Att, m.length = n → _root_.Go.Proofs.Ytpkppobkagdhkaa.more l (_root_.Go.Proofs.Ytpkppobkagdhkaa.uniq m) = _root_.Go.Proofs.Ytpkppobkagdhkaa.more l m from h _ m rfl
  intro n
  induction n with
  | zero => intro m hm; rw [List.eq_nil_of_length_eq_zero hm]; rfl
  | succ n ih =>
    intro m hm
    rcases List.eq_nil_or_concat m with rfl | ⟨q, a, rfl⟩
    · rfl
    · rw [List.concat_eq_append] at hm ⊢
      have hq : q.length = n := by simpa using hm
      have e1 : _root_.Go.Proofs.Ytpkppobkagdhkaa.uniq (q ++ [a]) = add (_root_.Go.Proofs.Ytpkppobkagdhkaa.uniq q) a := more_snoc [] q a
      have hh : hasN (_root_.Go.Proofs.Ytpkppobkagdhkaa.uniq q) a.1 = hasN q a.1 := by unfold hasN; rw [getF_uniq]
      rw [e1, more_snoc]
      unfold add
      rw [hh]
      by_cases hN : hasN q a.1 = true
      · rw [if_pos hN, ih q hq]
        have : hasN (_root_.Go.Proofs.Ytpkppobkagdhkaa.more l q) a.1 = true := by
          unfold hasN at hN ⊢
          rw [getF_more]
          cases getF l a.1 with
          | none => exact hN
          | some y => rfl
        rw [if_pos this]
      · rw [if_neg hN, more_snoc, ih q hq]; rfl

/-- How much there may be behind so many calls. -/
structure Sz (k : Nat) (a : Ar) : Prop where
  n : a.n ≤ 1 + 2 * k
  lbs : ∀ x, (a.lb x).name.size ≤ 10 ∧ (a.lb x).text.size ≤ 10 * k ∧ Tiny (6 * k) (a.lb x).attrs

theorem Sz.succ {k m : Nat} {a : Ar} (h : a.Sz k) (hm : k ≤ m) : a.Sz m :=
  ⟨by have := h.n; omega, fun x => ⟨(h.lbs x).1, by have := (h.lbs x).2.1; omega, (h.lbs x).2.2.mono (by omega)⟩⟩
theorem Sz.same {k : Nat} {a b : Ar} (h : a.Sz k) (h1 : b.n = a.n) (h2 : b.lb = a.lb) : b.Sz k := ⟨by rw [h1]; exact h.n, by rw [h2]; exact h.lbs⟩
theorem Sz.new {k : Nat} {a : Ar} (h : a.Sz k) {l : Lb} (h1 : l.name.size ≤ 10) (h2 : l.text.size ≤ 10) (h3 : Tiny 6 l.attrs) : (a.new l).Sz (k + 1) := by
  refine ⟨by have := h.n; show a.n + 1 ≤ _; omega, fun x => ?_⟩
  show ((if x = a.n then l else a.lb x) : Lb).name.size ≤ 10 ∧ _ ∧ Tiny _ ((if x = a.n then l else a.lb x) : Lb).attrs
  by_cases hx : x = a.n
  · rw [if_pos hx]; exact ⟨h1, by show ((if x = a.n then l else a.lb x) : Lb).text.size ≤ _; rw [if_pos hx]; omega, h3.mono (by omega)⟩
  · rw [if_neg hx]; exact ⟨(h.lbs x).1, by show ((if x = a.n then l else a.lb x) : Lb).text.size ≤ _; rw [if_neg hx]; have := (h.lbs x).2.1; omega, (h.lbs x).2.2.mono (by omega)⟩
theorem Sz.newT {k : Nat} {a : Ar} (h : a.Sz k) {l : Lb} (h1 : l.name.size ≤ 10) (h2 : l.text.size ≤ 10) (h3 : Tiny 6 l.attrs) : (a.newT l).Sz (k + 1) := by
  have g := h.new h1 h2 h3
  refine ⟨by have := h.n; show a.n + 1 + 1 ≤ _; omega, fun x => ?_⟩
  have e : (a.newT l).lb x = if x = a.n + 1 then (6, 0, ⟨#[]⟩, [], ⟨#[]⟩) else (a.new l).lb x := rfl
  by_cases hx : x = a.n + 1
  · rw [e, if_pos hx]; exact ⟨Nat.zero_le _, Nat.zero_le _, Tiny.nil _⟩
  · rw [e, if_neg hx]; exact g.lbs x
theorem Sz.tell {k m : Nat} {a : Ar} (h : a.Sz k) (hm : k ≤ m) (x : Nat) {l : Lb} (h1 : l.name.size ≤ 10) (h2 : l.text.size ≤ 10 * m) (h3 : Tiny (6 * m) l.attrs) : (a.tell x l).Sz m := by
  refine ⟨by have := h.n; show a.n ≤ _; omega, fun y => ?_⟩
  have e : (a.tell x l).lb y = if y = x then l else a.lb y := rfl
  by_cases hy : y = x
  · rw [e, if_pos hy]; exact ⟨h1, h2, h3⟩
  · rw [e, if_neg hy]; exact (h.succ hm).lbs y

theorem Sz.first : first.Sz 0 := ⟨Nat.le_refl _, fun _ => ⟨Nat.zero_le _, Nat.zero_le _, Tiny.nil _⟩⟩

theorem Sz.mkF {k : Nat} {a : Ar} (h : a.Sz k) (kind ns : Int) {name : ByteArray} {u : List Att} {text : ByteArray} (h1 : name.size ≤ 10) (h2 : text.size ≤ 10) (h3 : Tiny 6 u) : (a.mkF kind ns name u text).1.Sz (k + 1) := by
  unfold Ar.mkF
  have g := h.succ (Nat.le_succ k)
  (repeat' split)
  · exact g
  · exact g
  · exact h.newT h1 (Nat.zero_le _) h3
  · exact h.new h1 (Nat.zero_le _) h3
  · exact h.new h1 (Nat.zero_le _) (Tiny.nil _)
  · exact h.new (Nat.zero_le _) h2 (Tiny.nil _)
theorem Sz.appF {k : Nat} {a : Ar} (h : a.Sz k) (p x : Int) : (a.appF p x).1.Sz k := by
  unfold Ar.appF
  (repeat' split) <;> first | exact h | exact h.same rfl rfl
theorem Sz.befF {k : Nat} {a : Ar} (h : a.Sz k) (p x : Int) : (a.befF p x).1.Sz k := by
  unfold Ar.befF
  (repeat' split) <;> first | exact h | exact h.same rfl rfl
theorem Sz.detF {k : Nat} {a : Ar} (h : a.Sz k) (x : Int) : (a.detF x).1.Sz k := by
  unfold Ar.detF
  (repeat' split) <;> first | exact h | exact h.same rfl rfl
theorem Sz.movF {k : Nat} {a : Ar} (h : a.Sz k) (hf : a.Ful) (f t : Int) : (a.movF f t).1.Sz k := by
  unfold Ar.movF
  split
  · exact h
  rename_i h1
  split
  · exact h
  rename_i h2
  split
  · exact h
  rename_i h4
  simp only [not_or, Bool.not_eq_false, Bool.not_eq_true] at h1 h2 h4
  have ht := (there_lt h1.2).1
  obtain ⟨_, e1, e2⟩ := Ful.movs (f := f.toNat) _ a hf (hf.one _) (fun x hx => (hf.link _ x).1 hx) ht h2.2 (wn_false hf.toOk ht h4)
  exact h.same e1 e2
theorem size_cat (s t : ByteArray) : (s ++ t).size = s.size + t.size := ByteArray.size_append
theorem Sz.txt {k : Nat} {a : Ar} (h : a.Sz k) (p i : Nat) {s : ByteArray} (hs : s.size ≤ 10) : (a.txt p i s).Sz (k + 1) := by
  unfold Ar.txt
  have g := h.succ (Nat.le_succ k)
  have hn : ((a.new (4, 0, ⟨#[]⟩, [], s)).put p i a.n).Sz (k + 1) := (h.new (l := (4, 0, ⟨#[]⟩, [], s)) (Nat.zero_le _) hs (Tiny.nil _)).same rfl rfl
  split
  · exact g
  split
  · split
    · rename_i z _ _
      have gl := h.lbs z
      refine h.tell (Nat.le_succ k) z gl.1 ?_ (gl.2.2.mono (by omega))
      show ((a.lb z).text ++ s).size ≤ _
      rw [size_cat]
      have := gl.2.1
      omega
    · exact hn
  · exact hn
theorem Sz.wrF {k : Nat} {a : Ar} (h : a.Sz k) (p : Int) {s : ByteArray} (hs : s.size ≤ 10) : (a.wrF p s).1.Sz (k + 1) := by
  unfold Ar.wrF
  (repeat' split) <;> first | exact h.succ (Nat.le_succ k) | exact h.txt _ _ hs
theorem Sz.wbF {k : Nat} {a : Ar} (h : a.Sz k) (p : Int) {s : ByteArray} (hs : s.size ≤ 10) : (a.wbF p s).1.Sz (k + 1) := by
  unfold Ar.wbF
  (repeat' split) <;> first | exact h.succ (Nat.le_succ k) | exact h.txt _ _ hs
theorem Sz.morF {k : Nat} {a : Ar} (h : a.Sz k) (x : Int) {q : List Att} (hq : q.length ≤ 6) (hs : ∀ a, a ∈ q → a.1.size ≤ 20 ∧ a.2.size ≤ 30) : (a.morF x (fun l => _root_.Go.Proofs.Ytpkppobkagdhkaa.more l q)).1.Sz (k + 1) := by
  unfold Ar.morF
  split
  · exact h.succ (Nat.le_succ k)
  split
  · exact h.succ (Nat.le_succ k)
  · have gl := h.lbs x.toNat
    exact h.tell (Nat.le_succ k) _ gl.1 (by show (a.lb x.toNat).text.size ≤ _; have := gl.2.1; omega) ((gl.2.2.more hq hs).mono (by omega))

end Ar
end Go.Proofs.Ytpkppobkagdhkaa
