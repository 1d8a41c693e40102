/-
  A tree that is being copied: the nodes on the way, each with a list that has room for all of its kids. No program.
-/
import Derived.Test.YtgnbafgglkncmaaUnderZ
import Derived.Test.YtgnbafgglkncmaaVisits
namespace Go.Proofs.Ytgnbafgglkncmaa
open Go.RowKit
set_option linter.unusedVariables false

/-- A node on the way: where it lies (b, off), its label, its list (block g, so many so far, room), the kids that are done, and those that are to come. -/
structure Fq where
  b : Nat
  off : Nat
  l : Lb
  g : Nat
  n : Nat
  c : Nat
  done : Fo
  rest : Fo

def ko (g c : Nat) : Option Addr := if c = 0 then none else some ⟨g, 0, none⟩
def Fq.sl (f : Fq) : Value := .slice (ko f.g f.c) f.n f.c
def Fq.pl (f : Fq) : Pl := ((none, 0, 0), (ko f.g f.c, f.n, f.c))
def Fq.six (f : Fq) : List Value := Go.Proofs.Ytgnbafgglkncmaa.six f.l f.pl

theorem Fq.six_len (f : Fq) : f.six.length = 6 := rfl

/-- Its list: the kids that are done, and what stands behind them. -/
def Lq (Q : Nat → Prop) (w : World) (f : Fq) (ext : List Value) : Prop := ∃ zs, OwnK 6 w 25 f.sl f.n (zs ++ ext) ∧ Lf Q w f.done zs ∧ f.n + f.rest.len = f.c

/-- What it lies in: the list of the one ahead of it on the way, the last there; the first one lies in a block of its own. -/
def Un (Q : Nat → Prop) (w : World) : Fq → List Fq → Prop
  | f, [] => At w f.b f.six.toArray 25 ∧ f.off = 0
  | f, g :: r => f.b = g.g ∧ f.off = (g.n - 1) * 6 ∧ 0 < g.n ∧ f.l.attrs = [] ∧ Lq Q w g f.six ∧ Un Q w g r

def bot : Fq → List Fq → Nat
  | f, [] => f.b
  | _, g :: r => bot g r

/-- The blocks of the lists. -/
def opn : List Fq → List Nat
  | [] => []
  | f :: r => blk f.sl ++ opn r

theorem blk_sl (f : Fq) : ∀ x, x ∈ blk f.sl → x = f.g := fun x hx => by
  unfold Fq.sl ko at hx
  split at hx
  · simp [blk] at hx
  · simpa [blk] using hx

theorem Lq.keep {Q : Nat → Prop} {w w' : World} {f : Fq} {ext : List Value} (h : Lq Q w f ext) {D : List Nat} (k : Kp D w w') (hd : ∀ x, x ∈ blk f.sl → x ∉ D) (hs : Sm Q w w') : Lq Q w' f ext := by
  obtain ⟨zs, h1, h2, h3⟩ := h
  exact ⟨zs, h1.keep k hd, h2.keep hs, h3⟩

theorem Lq.mono {Q R : Nat → Prop} {w : World} {f : Fq} {ext : List Value} (h : Lq Q w f ext) (hr : ∀ x, x < w.heap.size → Q x → R x) : Lq R w f ext := by
  obtain ⟨zs, h1, h2, h3⟩ := h
  exact ⟨zs, h1, h2.mono hr, h3⟩

theorem Lq.lt {Q : Nat → Prop} {w : World} {f : Fq} {ext : List Value} (h : Lq Q w f ext) : ∀ x, x ∈ blk f.sl → x < w.heap.size := by
  obtain ⟨zs, h1, _⟩ := h
  exact h1.lt

theorem Un.keep {Q : Nat → Prop} {w w' : World} {D : List Nat} (k : Kp D w w') (hs : Sm Q w w') : ∀ {f : Fq} {r : List Fq}, Un Q w f r → (∀ x, x ∈ opn r → x ∉ D) → bot f r ∉ D → Un Q w' f r
  | f, [], h, _, hb => ⟨h.1.kept k hb, h.2⟩
  | f, g :: r, h, hd, hb => by
    obtain ⟨h1, h2, h3, h4, h5, h6⟩ := h
    exact ⟨h1, h2, h3, h4, h5.keep k (fun x hx => hd x (by simp [opn, hx])) hs, Un.keep k hs h6 (fun x hx => hd x (by simp [opn, hx])) hb⟩

theorem Un.mono {Q R : Nat → Prop} {w : World} (hr : ∀ x, x < w.heap.size → Q x → R x) : ∀ {f : Fq} {r : List Fq}, Un Q w f r → Un R w f r
  | f, [], h => h
  | f, g :: r, h => by
    obtain ⟨h1, h2, h3, h4, h5, h6⟩ := h
    exact ⟨h1, h2, h3, h4, h5.mono hr, Un.mono hr h6⟩

theorem Un.lt {Q : Nat → Prop} {w : World} : ∀ {f : Fq} {r : List Fq}, Un Q w f r → (∀ x, x ∈ opn r → x < w.heap.size) ∧ bot f r < w.heap.size
  | f, [], h => ⟨fun x hx => by simp [opn] at hx, h.1.lt⟩
  | f, g :: r, h => by
    obtain ⟨h1, h2, h3, h4, h5, h6⟩ := h
    refine ⟨fun x hx => ?_, (Un.lt h6).2⟩
    simp only [opn, List.mem_append] at hx
    rcases hx with hx | hx
    · exact h5.lt x hx
    · exact (Un.lt h6).1 x hx

/-- A list of its own: its block's cells. -/
theorem OwnK.cells {w : World} {g n c : Nat} {xs : List Value} (h : OwnK 6 w 25 (.slice (ko g c) n c) n xs) (hc : 0 < c) : ∃ cur, At w g cur 25 ∧ n ≤ c ∧ c ≤ maxLen ∧ c * 6 ≤ cur.size ∧ ∀ j, j < n * 6 → cur[j]? = xs[j]? := by
  obtain ⟨h0, h⟩ := h
  rcases h with ⟨h1, _⟩ | ⟨g', o, cap, cur, hv, hg, h1, h2, h3, h4⟩
  · unfold ko at h1
    rw [if_neg (by omega)] at h1
    cases h1
  · unfold ko at hv
    rw [if_neg (by omega)] at hv
    simp only [Value.slice.injEq, Option.some.injEq, Addr.mk.injEq] at hv
    obtain ⟨⟨rfl, rfl, _⟩, _, rfl⟩ := hv
    exact ⟨cur, hg, h1, h2, by omega, fun j hj => by have := h4 j hj; rwa [Nat.zero_add] at this⟩

theorem OwnK.of_cells {w : World} {g n c : Nat} {xs : List Value} {cur : Array Value} (hc : 0 < c) (hl : xs.length = n * 6) (hg : At w g cur 25) (h1 : n ≤ c) (h2 : c ≤ maxLen) (h3 : c * 6 ≤ cur.size) (h4 : ∀ j, j < n * 6 → cur[j]? = xs[j]?) : OwnK 6 w 25 (.slice (ko g c) n c) n xs := by
  refine ⟨hl, Or.inr ⟨g, 0, c, cur, ?_, hg, h1, h2, by omega, fun j hj => by rw [Nat.zero_add]; exact h4 j hj⟩⟩
  unfold ko
  rw [if_neg (by omega)]

/-- One more, where there is room. -/
theorem OwnK.room {w : World} {g n c : Nat} {zs ys : List Value} (h : OwnK 6 w 25 (.slice (ko g c) n c) n zs) (hn : n < c) (hy : ys.length = 6) : OwnK 6 (w.setCells g (n * 6) ys) 25 (.slice (ko g c) (n + 1) c) (n + 1) (zs ++ ys) := by
  have hz := h.1
  obtain ⟨cur, hg, h1, h2, h3, h4⟩ := h.cells (by omega)
  have hm : (n + 1) * 6 ≤ c * 6 := Nat.mul_le_mul_right 6 hn
  obtain ⟨cur', hg', hs'⟩ := setCells_block g 25 ys (n * 6) w cur hg
  have hget := setCells_get g 25 ys (n * 6) w cur cur' hg hg' (by omega)
  refine OwnK.of_cells (by omega) (by rw [List.length_append, hz, hy]; omega) hg' (by omega) h2 (by omega) (fun j hj => ?_)
  rw [hget, hy]
  by_cases h5 : j < n * 6
  · rw [if_neg (by omega), h4 j h5, List.getElem?_append_left (by omega)]
  · rw [if_pos (by omega), List.getElem?_append_right (by omega), hz]

/-- The last one's cell turned. -/
theorem OwnK.turn {w : World} {g n c : Nat} {zs ys : List Value} (h : OwnK 6 w 25 (.slice (ko g c) n c) n (zs ++ ys)) (hn : 0 < n) (hy : ys.length = 6) (u : Value) : OwnK 6 (w.setCell ⟨g, (n - 1) * 6 + 5, none⟩ u) 25 (.slice (ko g c) n c) n (zs ++ ys.set 5 u) := by
  have hz := h.1
  rw [List.length_append, hy] at hz
  have hc : 0 < c := by
    rcases h.2 with ⟨h1, h2⟩ | ⟨g', o, cap, cur, hv, hg, h1, h2, h3, h4⟩
    · omega
    · simp only [Value.slice.injEq] at hv
      omega
  obtain ⟨cur, hg, h1, h2, h3, h4⟩ := h.cells hc
  have hm : n * 6 ≤ c * 6 := Nat.mul_le_mul_right 6 h1
  refine OwnK.of_cells hc (by rw [List.length_append, List.length_set, hy]; omega) (hg.set _ u) h1 h2 (by simpa using h3) (fun j hj => ?_)
  by_cases h5 : j = (n - 1) * 6 + 5
  · rw [h5, Array.getElem?_setIfInBounds_self_of_lt (by omega), List.getElem?_append_right (by omega), show (n - 1) * 6 + 5 - zs.length = 5 by omega, List.getElem?_set_self (by omega)]
  · rw [Array.getElem?_setIfInBounds_ne (by omega), h4 j hj]
    by_cases h6 : j < zs.length
    · rw [List.getElem?_append_left h6, List.getElem?_append_left h6]
    · rw [List.getElem?_append_right (by omega), List.getElem?_append_right (by omega), List.getElem?_set_ne (by omega)]

/-- The node's own cell that holds its list. -/
theorem Un.cell {Q : Nat → Prop} {w : World} : ∀ {f : Fq} {r : List Fq}, Un Q w f r → w.cell? ⟨f.b, f.off + 5, none⟩ = some f.sl ∧ w.frozen? ⟨f.b, f.off + 5, none⟩ = false
  | f, [], h => by
    obtain ⟨h1, h2⟩ := h
    rw [h2, Nat.zero_add]
    exact ⟨h1.cell 5, h1.free 5⟩
  | f, g :: r, h => by
    obtain ⟨h1, h2, h3, h4, ⟨zs, h5, _, _⟩, h6⟩ := h
    have hz := h5.1
    rw [List.length_append, Fq.six_len] at hz
    have hc : 0 < g.c := by
      rcases h5.2 with ⟨e1, e2⟩ | ⟨g', o, cap, cur, hv, hg, e1, e2, e3, e4⟩
      · omega
      · unfold Fq.sl at hv
        simp only [Value.slice.injEq] at hv
        omega
    obtain ⟨cur, hg, a1, a2, a3, a4⟩ := OwnK.cells h5 hc
    rw [h1, h2]
    refine ⟨?_, hg.free _⟩
    rw [hg.cell, a4 _ (by omega), List.getElem?_append_right (by omega), show (g.n - 1) * 6 + 5 - zs.length = 5 by omega]
    rfl

/-- Its list is turned: so many now. -/
theorem Un.turn {Q : Nat → Prop} {w : World} (n' : Nat) (d' s' : Fo) : ∀ {f : Fq} {r : List Fq}, Un Q w f r → ¬ Q f.b → (opn r).Nodup → bot f r ∉ opn r → Un Q (w.setCell ⟨f.b, f.off + 5, none⟩ (.slice (ko f.g f.c) n' f.c)) { f with n := n', done := d', rest := s' } r
  | f, [], h, _, _, _ => by
    obtain ⟨h1, h2⟩ := h
    refine ⟨?_, h2⟩
    rw [h2, Nat.zero_add]
    exact h1.set 5 _
  | f, g :: r, h, hq, hnd, hb => by
    obtain ⟨h1, h2, h3, h4, ⟨zs, h5, h7, h8⟩, h6⟩ := h
    have hz := h5.1
    rw [List.length_append, Fq.six_len] at hz
    have hgb : g.g ∈ blk g.sl := by
      have hc : g.c ≠ 0 := fun e => by
        rcases h5.2 with ⟨e1, e2⟩ | ⟨g', o, cap, cur, hv, hg, e1, e2, e3, e4⟩
        · omega
        · unfold Fq.sl at hv
          simp only [Value.slice.injEq] at hv
          omega
      simp [Fq.sl, ko, hc, blk]
    simp only [opn] at hnd hb
    have hnot : ∀ x, x ∈ opn r → x ≠ g.g := fun x hx e => (List.nodup_append.1 hnd).2.2 g.g hgb x hx e.symm
    have k : Kp [f.b] w (w.setCell ⟨f.b, f.off + 5, none⟩ (.slice (ko f.g f.c) n' f.c)) := (Kp.refl _ _).setCell (Or.inl (by simp)) _
    have hsm : Sm Q w (w.setCell ⟨f.b, f.off + 5, none⟩ (.slice (ko f.g f.c) n' f.c)) := k.sms (fun x hx => by simp; intro e; subst e; exact hq hx)
    refine ⟨h1, h2, h3, h4, ⟨zs, ?_, h7.keep hsm, h8⟩, h6.keep k hsm (fun x hx => by simp; intro e; exact hnot x hx (by omega)) (by
      simp only [List.mem_singleton]
      intro e
      exact hb (by rw [show bot f (g :: r) = bot g r from rfl, e, h1]; simp [hgb]))⟩
    have := OwnK.turn h5 h3 f.six_len (.slice (ko f.g f.c) n' f.c)
    rw [h1, h2]
    exact this

/-- The node on top is closed: it is done. -/
theorem Lq.close {Q : Nat → Prop} {w : World} {f g : Fq} {r : List Fq} (h : Lq Q w f []) (hu : Un Q w f (g :: r)) (hq : ∀ x, x ∈ blk f.sl → Q x) : Lq Q w { g with done := g.done.app (.cons f.l f.done .nil) } [] ∧ Un Q w { g with done := g.done.app (.cons f.l f.done .nil) } r := by
  obtain ⟨zs, a1, a2, a3⟩ := h
  obtain ⟨h1, h2, h3, h4, ⟨ys, b1, b2, b3⟩, h6⟩ := hu
  rw [List.append_nil] at a1
  refine ⟨⟨ys ++ f.six, by rw [List.append_nil]; exact b1, Lf.app ?_ b2, b3⟩, ?_⟩
  · have nd : Nd Q w f.l f.done f.pl := ⟨by rw [h4]; exact Rk.nil Q 2 w none 0, Rt.of_own a1 rfl hq a2⟩
    have := Lf.cons nd (Lf.nil Q w)
    rwa [List.append_nil] at this
  · revert h6
    cases r with
    | nil => exact fun h => h
    | cons e r => exact fun h => h

/-- All that is to come. -/
def tC : Fq → List Fq → List Vt
  | f, [] => f.rest.vis 0
  | f, g :: r => f.rest.vis (r.length + 1) ++ tC g r

/-- The whole: what is done, and what is to come. -/
def whole : Fq → List Fq → Fo → Fo
  | f, [], d => d.app f.rest
  | f, g :: r, d => whole g r (g.done.app (.cons f.l (d.app f.rest) .nil))

theorem tC_deep : ∀ {f : Fq} {r : List Fq} {u : Vt} {S : List Vt}, tC f r = u :: S → u.1 ≤ r.length ∧ (u.1 < r.length → f.rest = .nil)
  | f, [], u, S, h => by
    refine ⟨?_, fun h => by simp at h⟩
    revert h
    refine Fo.cases (P := fun k => k.vis 0 = u :: S → u.1 ≤ [].length) f.rest (fun h => by simp [vis_nil] at h) (fun l k s h => ?_)
    rw [vis_cons] at h
    simp only [List.cons.injEq] at h
    rw [← h.1]; simp
  | f, g :: r, u, S, h => by
    by_cases e : f.rest = .nil
    · simp only [tC, e, vis_nil, List.nil_append] at h
      have := tC_deep h
      exact ⟨by simp; omega, fun _ => e⟩
    · have hne : ∃ l k s, f.rest = .cons l k s := by
        revert e
        refine Fo.cases (P := fun k => k ≠ .nil → ∃ l k' s, k = .cons l k' s) f.rest (fun h => absurd rfl h) (fun l k s _ => ⟨l, k, s, rfl⟩)
      obtain ⟨l, k, s, e'⟩ := hne
      simp only [tC, e', vis_cons, List.cons_append, List.cons.injEq] at h
      rw [← h.1]
      exact ⟨by simp, fun h => by simp at h⟩

/-- The next one goes under the one on top. -/
theorem tC_top {f : Fq} {r : List Fq} {u : Vt} {S : List Vt} (h : tC f r = u :: S) (hd : u.1 = r.length) : ∃ s, f.rest = .cons u.2.1 u.2.2 s ∧ ∀ f2 f' : Fq, f2.rest = u.2.2 → f'.rest = s → tC f2 (f' :: r) = S := by
  have key : ∀ (k : Fo), f.rest = k → ∃ s, f.rest = .cons u.2.1 u.2.2 s ∧ ∀ f2 f' : Fq, f2.rest = u.2.2 → f'.rest = s → tC f2 (f' :: r) = S := by
    refine fun k => Fo.cases (P := fun k => f.rest = k → ∃ s, f.rest = .cons u.2.1 u.2.2 s ∧ ∀ f2 f' : Fq, f2.rest = u.2.2 → f'.rest = s → tC f2 (f' :: r) = S) k (fun e => ?_) (fun l k s e => ?_)
    · cases r with
      | nil => simp [tC, e, vis_nil] at h
      | cons g r =>
        simp only [tC, e, vis_nil, List.nil_append] at h
        have := (tC_deep h).1
        simp at hd
        omega
    · cases r with
      | nil =>
        simp only [tC, e, vis_cons, List.cons.injEq] at h
        obtain ⟨h1, h2⟩ := h
        subst h1
        exact ⟨s, e, fun f2 f' e2 e3 => by simp only [tC, e2, e3, List.length_nil]; exact h2⟩
      | cons g r =>
        simp only [tC, e, vis_cons, List.cons_append, List.cons.injEq] at h
        obtain ⟨h1, h2⟩ := h
        subst h1
        exact ⟨s, e, fun f2 f' e2 e3 => by simp only [tC, e2, e3, List.length_cons, ← List.append_assoc]; rw [← h2]⟩
  exact key _ rfl

theorem whole_app {f : Fq} {r : List Fq} (d : Fo) (f' : Fq) (hl : f'.l = f.l) (d' : Fo) (e : d.app f.rest = d'.app f'.rest) : whole f r d = whole f' r d' := by
  cases r with
  | nil => exact e
  | cons g r => simp only [whole, hl, e]

theorem tC_nil : ∀ {f : Fq} {r : List Fq}, tC f r = [] → f.rest = .nil
  | f, [], h => by
    have := congrArg List.length h
    simp only [tC] at this
    rw [vis_len] at this
    have := Fo.len_le_cnt f.rest
    exact Fo.len_zero.1 (by simp at *; omega)
  | f, g :: r, h => by
    have := congrArg List.length h
    simp only [tC, List.length_append] at this
    rw [vis_len] at this
    have := Fo.len_le_cnt f.rest
    exact Fo.len_zero.1 (by simp at *; omega)

/-- When nothing is to come, the first one's list is the whole. -/
theorem Lq.end {R : Nat → Prop} {w : World} : ∀ {f : Fq} {r : List Fq}, Lq R w f [] → Un R w f r → tC f r = [] → (∀ x, x ∈ opn (f :: r) → R x) → ∃ f0 : Fq, bot f r = f0.b ∧ Lq R w f0 [] ∧ f0.done = whole f r f.done ∧ At w f0.b f0.six.toArray 25 ∧ f0.rest = .nil
  | f, [], h, hu, ht, _ => ⟨f, rfl, h, by simp only [whole, tC_nil ht, Fo.app_nil'], hu.1, tC_nil ht⟩
  | f, g :: r, h, hu, ht, hr => by
    have h1 := tC_nil ht
    obtain ⟨h2, h3⟩ := h.close hu (fun x hx => hr x (by simp [opn, hx]))
    have ht2 : tC g r = [] := by
      simp only [tC, h1, vis_nil, List.nil_append] at ht
      exact ht
    have ht3 : tC { g with done := g.done.app (.cons f.l f.done .nil) } r = [] := by
      cases r with
      | nil => exact ht2
      | cons e r => exact ht2
    obtain ⟨f0, e1, e2, e3, e4, e5⟩ := Lq.end h2 h3 ht3 (fun x hx => hr x (by simp only [opn, List.mem_append] at hx ⊢; exact Or.inr hx))
    refine ⟨f0, ?_, e2, ?_, e4, e5⟩
    · rw [← e1]
      cases r with
      | nil => rfl
      | cons e r => rfl
    · rw [e3]
      show _ = whole g r (g.done.app (.cons f.l (f.done.app f.rest) .nil))
      rw [h1, Fo.app_nil']
      exact whole_app (f := { g with done := g.done.app (.cons f.l f.done .nil) }) _ g rfl _ rfl

end Go.Proofs.Ytgnbafgglkncmaa
