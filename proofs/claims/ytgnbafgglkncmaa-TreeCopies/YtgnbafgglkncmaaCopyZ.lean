/-
  Joined: CopyA CopyB Ptrs CopyC CopyD CopyE.
-/
import Derived.Test.YtgnbafgglkncmaaUnderZ
import Derived.Test.YtgnbafgglkncmaaVisits
import Derived.Test.YtgnbafgglkncmaaClone
import Derived.Laws.MakeOwn
import Derived.Deep.CutRange
import Derived.Test.YtgnbafgglkncmaaPlacesB
import Derived.Test.YtgnbafgglkncmaaTell
import Derived.Test.YtgnbafgglkncmaaTellB
import Derived.Test.YtgnbafgglkncmaaSames

/-
  A tree that is being copied: the nodes on the way, each with a list that has room for all of its kids. No program.
-/
namespace Go.Proofs.Ytgnbafgglkncmaa
open Go.RowKit
set_option linter.unusedVariables false

/-- A node on the way: where it lies (b, off), its label, its list (block g, so many so far, room), the kids that are done, and those that are to come. -/
structure Fq where
  b : Nat
  off : Nat
  l : Lb
  g : Nat
  n : Nat
  c : Nat
  done : Fo
  rest : Fo

def ko (g c : Nat) : Option Addr := if c = 0 then none else some ⟨g, 0, none⟩
def Fq.sl (f : Fq) : Value := .slice (ko f.g f.c) f.n f.c
def Fq.pl (f : Fq) : Pl := ((none, 0, 0), (ko f.g f.c, f.n, f.c))
def Fq.six (f : Fq) : List Value := Go.Proofs.Ytgnbafgglkncmaa.six f.l f.pl

theorem Fq.six_len (f : Fq) : f.six.length = 6 := rfl

/-- Its list: the kids that are done, and what stands behind them. -/
def Lq (Q : Nat → Prop) (w : World) (f : Fq) (ext : List Value) : Prop := ∃ zs, OwnK 6 w 25 f.sl f.n (zs ++ ext) ∧ Lf Q w f.done zs ∧ f.n + f.rest.len = f.c

/-- What it lies in: the list of the one ahead of it on the way, the last there; the first one lies in a block of its own. -/
def Un (Q : Nat → Prop) (w : World) : Fq → List Fq → Prop
  | f, [] => At w f.b f.six.toArray 25 ∧ f.off = 0
  | f, g :: r => f.b = g.g ∧ f.off = (g.n - 1) * 6 ∧ 0 < g.n ∧ f.l.attrs = [] ∧ Lq Q w g f.six ∧ Un Q w g r

def bot : Fq → List Fq → Nat
  | f, [] => f.b
  | _, g :: r => bot g r

/-- The blocks of the lists. -/
def opn : List Fq → List Nat
  | [] => []
  | f :: r => blk f.sl ++ opn r

theorem blk_sl (f : Fq) : ∀ x, x ∈ blk f.sl → x = f.g := fun x hx => by
  unfold Fq.sl ko at hx
  split at hx
  · simp [blk] at hx
  · simpa [blk] using hx

theorem Lq.keep {Q : Nat → Prop} {w w' : World} {f : Fq} {ext : List Value} (h : Lq Q w f ext) {D : List Nat} (k : Kp D w w') (hd : ∀ x, x ∈ blk f.sl → x ∉ D) (hs : Sm Q w w') : Lq Q w' f ext := by
  obtain ⟨zs, h1, h2, h3⟩ := h
  exact ⟨zs, h1.keep k hd, h2.keep hs, h3⟩

theorem Lq.mono {Q R : Nat → Prop} {w : World} {f : Fq} {ext : List Value} (h : Lq Q w f ext) (hr : ∀ x, x < w.heap.size → Q x → R x) : Lq R w f ext := by
  obtain ⟨zs, h1, h2, h3⟩ := h
  exact ⟨zs, h1, h2.mono hr, h3⟩

theorem Lq.lt {Q : Nat → Prop} {w : World} {f : Fq} {ext : List Value} (h : Lq Q w f ext) : ∀ x, x ∈ blk f.sl → x < w.heap.size := by
  obtain ⟨zs, h1, _⟩ := h
  exact h1.lt

theorem Un.keep {Q : Nat → Prop} {w w' : World} {D : List Nat} (k : Kp D w w') (hs : Sm Q w w') : ∀ {f : Fq} {r : List Fq}, Un Q w f r → (∀ x, x ∈ opn r → x ∉ D) → bot f r ∉ D → Un Q w' f r
  | f, [], h, _, hb => ⟨h.1.kept k hb, h.2⟩
  | f, g :: r, h, hd, hb => by
    obtain ⟨h1, h2, h3, h4, h5, h6⟩ := h
    exact ⟨h1, h2, h3, h4, h5.keep k (fun x hx => hd x (by simp [opn, hx])) hs, Un.keep k hs h6 (fun x hx => hd x (by simp [opn, hx])) hb⟩

theorem Un.mono {Q R : Nat → Prop} {w : World} (hr : ∀ x, x < w.heap.size → Q x → R x) : ∀ {f : Fq} {r : List Fq}, Un Q w f r → Un R w f r
  | f, [], h => h
  | f, g :: r, h => by
    obtain ⟨h1, h2, h3, h4, h5, h6⟩ := h
    exact ⟨h1, h2, h3, h4, h5.mono hr, Un.mono hr h6⟩

theorem Un.lt {Q : Nat → Prop} {w : World} : ∀ {f : Fq} {r : List Fq}, Un Q w f r → (∀ x, x ∈ opn r → x < w.heap.size) ∧ bot f r < w.heap.size
  | f, [], h => ⟨fun x hx => by simp [opn] at hx, h.1.lt⟩
  | f, g :: r, h => by
    obtain ⟨h1, h2, h3, h4, h5, h6⟩ := h
    refine ⟨fun x hx => ?_, (Un.lt h6).2⟩
    simp only [opn, List.mem_append] at hx
    rcases hx with hx | hx
    · exact h5.lt x hx
    · exact (Un.lt h6).1 x hx

/-- A list of its own: its block's cells. -/
theorem OwnK.cells {w : World} {g n c : Nat} {xs : List Value} (h : OwnK 6 w 25 (.slice (ko g c) n c) n xs) (hc : 0 < c) : ∃ cur, At w g cur 25 ∧ n ≤ c ∧ c ≤ maxLen ∧ c * 6 ≤ cur.size ∧ ∀ j, j < n * 6 → cur[j]? = xs[j]? := by
  obtain ⟨h0, h⟩ := h
  rcases h with ⟨h1, _⟩ | ⟨g', o, cap, cur, hv, hg, h1, h2, h3, h4⟩
  · unfold ko at h1
    rw [if_neg (by omega)] at h1
    cases h1
  · unfold ko at hv
    rw [if_neg (by omega)] at hv
    simp only [Value.slice.injEq, Option.some.injEq, Addr.mk.injEq] at hv
    obtain ⟨⟨rfl, rfl, _⟩, _, rfl⟩ := hv
    exact ⟨cur, hg, h1, h2, by omega, fun j hj => by have := h4 j hj; rwa [Nat.zero_add] at this⟩

theorem OwnK.of_cells {w : World} {g n c : Nat} {xs : List Value} {cur : Array Value} (hc : 0 < c) (hl : xs.length = n * 6) (hg : At w g cur 25) (h1 : n ≤ c) (h2 : c ≤ maxLen) (h3 : c * 6 ≤ cur.size) (h4 : ∀ j, j < n * 6 → cur[j]? = xs[j]?) : OwnK 6 w 25 (.slice (ko g c) n c) n xs := by
  refine ⟨hl, Or.inr ⟨g, 0, c, cur, ?_, hg, h1, h2, by omega, fun j hj => by rw [Nat.zero_add]; exact h4 j hj⟩⟩
  unfold ko
  rw [if_neg (by omega)]

/-- One more, where there is room. -/
theorem OwnK.room {w : World} {g n c : Nat} {zs ys : List Value} (h : OwnK 6 w 25 (.slice (ko g c) n c) n zs) (hn : n < c) (hy : ys.length = 6) : OwnK 6 (w.setCells g (n * 6) ys) 25 (.slice (ko g c) (n + 1) c) (n + 1) (zs ++ ys) := by
  have hz := h.1
  obtain ⟨cur, hg, h1, h2, h3, h4⟩ := h.cells (by omega)
  have hm : (n + 1) * 6 ≤ c * 6 := Nat.mul_le_mul_right 6 hn
  obtain ⟨cur', hg', hs'⟩ := setCells_block g 25 ys (n * 6) w cur hg
  have hget := setCells_get g 25 ys (n * 6) w cur cur' hg hg' (by omega)
  refine OwnK.of_cells (by omega) (by rw [List.length_append, hz, hy]; omega) hg' (by omega) h2 (by omega) (fun j hj => ?_)
  rw [hget, hy]
  by_cases h5 : j < n * 6
  · rw [if_neg (by omega), h4 j h5, List.getElem?_append_left (by omega)]
  · rw [if_pos (by omega), List.getElem?_append_right (by omega), hz]

/-- The last one's cell turned. -/
theorem OwnK.turn {w : World} {g n c : Nat} {zs ys : List Value} (h : OwnK 6 w 25 (.slice (ko g c) n c) n (zs ++ ys)) (hn : 0 < n) (hy : ys.length = 6) (u : Value) : OwnK 6 (w.setCell ⟨g, (n - 1) * 6 + 5, none⟩ u) 25 (.slice (ko g c) n c) n (zs ++ ys.set 5 u) := by
  have hz := h.1
  rw [List.length_append, hy] at hz
  have hc : 0 < c := by
    rcases h.2 with ⟨h1, h2⟩ | ⟨g', o, cap, cur, hv, hg, h1, h2, h3, h4⟩
    · omega
    · simp only [Value.slice.injEq] at hv
      omega
  obtain ⟨cur, hg, h1, h2, h3, h4⟩ := h.cells hc
  have hm : n * 6 ≤ c * 6 := Nat.mul_le_mul_right 6 h1
  refine OwnK.of_cells hc (by rw [List.length_append, List.length_set, hy]; omega) (hg.set _ u) h1 h2 (by simpa using h3) (fun j hj => ?_)
  by_cases h5 : j = (n - 1) * 6 + 5
  · rw [h5, Array.getElem?_setIfInBounds_self_of_lt (by omega), List.getElem?_append_right (by omega), show (n - 1) * 6 + 5 - zs.length = 5 by omega, List.getElem?_set_self (by omega)]
  · rw [Array.getElem?_setIfInBounds_ne (by omega), h4 j hj]
    by_cases h6 : j < zs.length
    · rw [List.getElem?_append_left h6, List.getElem?_append_left h6]
    · rw [List.getElem?_append_right (by omega), List.getElem?_append_right (by omega), List.getElem?_set_ne (by omega)]

/-- The node's own cell that holds its list. -/
theorem Un.cell {Q : Nat → Prop} {w : World} : ∀ {f : Fq} {r : List Fq}, Un Q w f r → w.cell? ⟨f.b, f.off + 5, none⟩ = some f.sl ∧ w.frozen? ⟨f.b, f.off + 5, none⟩ = false
  | f, [], h => by
    obtain ⟨h1, h2⟩ := h
    rw [h2, Nat.zero_add]
    exact ⟨h1.cell 5, h1.free 5⟩
  | f, g :: r, h => by
    obtain ⟨h1, h2, h3, h4, ⟨zs, h5, _, _⟩, h6⟩ := h
    have hz := h5.1
    rw [List.length_append, Fq.six_len] at hz
    have hc : 0 < g.c := by
      rcases h5.2 with ⟨e1, e2⟩ | ⟨g', o, cap, cur, hv, hg, e1, e2, e3, e4⟩
      · omega
      · unfold Fq.sl at hv
        simp only [Value.slice.injEq] at hv
        omega
    obtain ⟨cur, hg, a1, a2, a3, a4⟩ := OwnK.cells h5 hc
    rw [h1, h2]
    refine ⟨?_, hg.free _⟩
    rw [hg.cell, a4 _ (by omega), List.getElem?_append_right (by omega), show (g.n - 1) * 6 + 5 - zs.length = 5 by omega]
    rfl

/-- Its list is turned: so many now. -/
theorem Un.turn {Q : Nat → Prop} {w : World} (n' : Nat) (d' s' : Fo) : ∀ {f : Fq} {r : List Fq}, Un Q w f r → ¬ Q f.b → (opn r).Nodup → bot f r ∉ opn r → Un Q (w.setCell ⟨f.b, f.off + 5, none⟩ (.slice (ko f.g f.c) n' f.c)) { f with n := n', done := d', rest := s' } r
  | f, [], h, _, _, _ => by
    obtain ⟨h1, h2⟩ := h
    refine ⟨?_, h2⟩
    rw [h2, Nat.zero_add]
    exact h1.set 5 _
  | f, g :: r, h, hq, hnd, hb => by
    obtain ⟨h1, h2, h3, h4, ⟨zs, h5, h7, h8⟩, h6⟩ := h
    have hz := h5.1
    rw [List.length_append, Fq.six_len] at hz
    have hgb : g.g ∈ blk g.sl := by
      have hc : g.c ≠ 0 := fun e => by
        rcases h5.2 with ⟨e1, e2⟩ | ⟨g', o, cap, cur, hv, hg, e1, e2, e3, e4⟩
        · omega
        · unfold Fq.sl at hv
          simp only [Value.slice.injEq] at hv
          omega
      simp [Fq.sl, ko, hc, blk]
    simp only [opn] at hnd hb
    have hnot : ∀ x, x ∈ opn r → x ≠ g.g := fun x hx e => (List.nodup_append.1 hnd).2.2 g.g hgb x hx e.symm
    have k : Kp [f.b] w (w.setCell ⟨f.b, f.off + 5, none⟩ (.slice (ko f.g f.c) n' f.c)) := (Kp.refl _ _).setCell (Or.inl (by simp)) _
    have hsm : Sm Q w (w.setCell ⟨f.b, f.off + 5, none⟩ (.slice (ko f.g f.c) n' f.c)) := k.sms (fun x hx => by simp; intro e; subst e; exact hq hx)
    refine ⟨h1, h2, h3, h4, ⟨zs, ?_, h7.keep hsm, h8⟩, h6.keep k hsm (fun x hx => by simp; intro e; exact hnot x hx (by omega)) (by
      simp only [List.mem_singleton]
      intro e
      exact hb (by rw [show bot f (g :: r) = bot g r from rfl, e, h1]; simp [hgb]))⟩
    have := OwnK.turn h5 h3 f.six_len (.slice (ko f.g f.c) n' f.c)
    rw [h1, h2]
    exact this

/-- The node on top is closed: it is done. -/
theorem Lq.close {Q : Nat → Prop} {w : World} {f g : Fq} {r : List Fq} (h : Lq Q w f []) (hu : Un Q w f (g :: r)) (hq : ∀ x, x ∈ blk f.sl → Q x) : Lq Q w { g with done := g.done.app (.cons f.l f.done .nil) } [] ∧ Un Q w { g with done := g.done.app (.cons f.l f.done .nil) } r := by
  obtain ⟨zs, a1, a2, a3⟩ := h
  obtain ⟨h1, h2, h3, h4, ⟨ys, b1, b2, b3⟩, h6⟩ := hu
  rw [List.append_nil] at a1
  refine ⟨⟨ys ++ f.six, by rw [List.append_nil]; exact b1, Lf.app ?_ b2, b3⟩, ?_⟩
  · have nd : Nd Q w f.l f.done f.pl := ⟨by rw [h4]; exact Rk.nil Q 2 w none 0, Rt.of_own a1 rfl hq a2⟩
    have := Lf.cons nd (Lf.nil Q w)
    rwa [List.append_nil] at this
  · revert h6
    cases r with
    | nil => exact fun h => h
    | cons e r => exact fun h => h

/-- All that is to come. -/
def tC : Fq → List Fq → List Vt
  | f, [] => f.rest.vis 0
  | f, g :: r => f.rest.vis (r.length + 1) ++ tC g r

/-- The whole: what is done, and what is to come. -/
def whole : Fq → List Fq → Fo → Fo
  | f, [], d => d.app f.rest
  | f, g :: r, d => whole g r (g.done.app (.cons f.l (d.app f.rest) .nil))

theorem tC_deep : ∀ {f : Fq} {r : List Fq} {u : Vt} {S : List Vt}, tC f r = u :: S → u.1 ≤ r.length ∧ (u.1 < r.length → f.rest = .nil)
  | f, [], u, S, h => by
    refine ⟨?_, fun h => by simp at h⟩
    revert h
    refine Fo.cases (P := fun k => k.vis 0 = u :: S → u.1 ≤ [].length) f.rest (fun h => by simp [vis_nil] at h) (fun l k s h => ?_)
    rw [vis_cons] at h
    simp only [List.cons.injEq] at h
    rw [← h.1]; simp
  | f, g :: r, u, S, h => by
    by_cases e : f.rest = .nil
    · simp only [tC, e, vis_nil, List.nil_append] at h
      have := tC_deep h
      exact ⟨by simp; omega, fun _ => e⟩
    · have hne : ∃ l k s, f.rest = .cons l k s := by
        revert e
        refine Fo.cases (P := fun k => k ≠ .nil → ∃ l k' s, k = .cons l k' s) f.rest (fun h => absurd rfl h) (fun l k s _ => ⟨l, k, s, rfl⟩)
      obtain ⟨l, k, s, e'⟩ := hne
      simp only [tC, e', vis_cons, List.cons_append, List.cons.injEq] at h
      rw [← h.1]
      exact ⟨by simp, fun h => by simp at h⟩

/-- The next one goes under the one on top. -/
theorem tC_top {f : Fq} {r : List Fq} {u : Vt} {S : List Vt} (h : tC f r = u :: S) (hd : u.1 = r.length) : ∃ s, f.rest = .cons u.2.1 u.2.2 s ∧ ∀ f2 f' : Fq, f2.rest = u.2.2 → f'.rest = s → tC f2 (f' :: r) = S := by
  have key : ∀ (k : Fo), f.rest = k → ∃ s, f.rest = .cons u.2.1 u.2.2 s ∧ ∀ f2 f' : Fq, f2.rest = u.2.2 → f'.rest = s → tC f2 (f' :: r) = S := by
    refine fun k => Fo.cases (P := fun k => f.rest = k → ∃ s, f.rest = .cons u.2.1 u.2.2 s ∧ ∀ f2 f' : Fq, f2.rest = u.2.2 → f'.rest = s → tC f2 (f' :: r) = S) k (fun e => ?_) (fun l k s e => ?_)
    · cases r with
      | nil => simp [tC, e, vis_nil] at h
      | cons g r =>
        simp only [tC, e, vis_nil, List.nil_append] at h
        have := (tC_deep h).1
        simp at hd
        omega
    · cases r with
      | nil =>
        simp only [tC, e, vis_cons, List.cons.injEq] at h
        obtain ⟨h1, h2⟩ := h
        subst h1
        exact ⟨s, e, fun f2 f' e2 e3 => by simp only [tC, e2, e3, List.length_nil]; exact h2⟩
      | cons g r =>
        simp only [tC, e, vis_cons, List.cons_append, List.cons.injEq] at h
        obtain ⟨h1, h2⟩ := h
        subst h1
        exact ⟨s, e, fun f2 f' e2 e3 => by simp only [tC, e2, e3, List.length_cons, ← List.append_assoc]; rw [← h2]⟩
  exact key _ rfl

theorem whole_app {f : Fq} {r : List Fq} (d : Fo) (f' : Fq) (hl : f'.l = f.l) (d' : Fo) (e : d.app f.rest = d'.app f'.rest) : whole f r d = whole f' r d' := by
  cases r with
  | nil => exact e
  | cons g r => simp only [whole, hl, e]

theorem tC_nil : ∀ {f : Fq} {r : List Fq}, tC f r = [] → f.rest = .nil
  | f, [], h => by
    have := congrArg List.length h
    simp only [tC] at this
    rw [vis_len] at this
    have := Fo.len_le_cnt f.rest
    exact Fo.len_zero.1 (by simp at *; omega)
  | f, g :: r, h => by
    have := congrArg List.length h
    simp only [tC, List.length_append] at this
    rw [vis_len] at this
    have := Fo.len_le_cnt f.rest
    exact Fo.len_zero.1 (by simp at *; omega)

/-- When nothing is to come, the first one's list is the whole. -/
theorem Lq.end {R : Nat → Prop} {w : World} : ∀ {f : Fq} {r : List Fq}, Lq R w f [] → Un R w f r → tC f r = [] → (∀ x, x ∈ opn (f :: r) → R x) → ∃ f0 : Fq, bot f r = f0.b ∧ Lq R w f0 [] ∧ f0.done = whole f r f.done ∧ At w f0.b f0.six.toArray 25 ∧ f0.rest = .nil
  | f, [], h, hu, ht, _ => ⟨f, rfl, h, by simp only [whole, tC_nil ht, Fo.app_nil'], hu.1, tC_nil ht⟩
  | f, g :: r, h, hu, ht, hr => by
    have h1 := tC_nil ht
    obtain ⟨h2, h3⟩ := h.close hu (fun x hx => hr x (by simp [opn, hx]))
    have ht2 : tC g r = [] := by
      simp only [tC, h1, vis_nil, List.nil_append] at ht
      exact ht
    have ht3 : tC { g with done := g.done.app (.cons f.l f.done .nil) } r = [] := by
      cases r with
      | nil => exact ht2
      | cons e r => exact ht2
    obtain ⟨f0, e1, e2, e3, e4, e5⟩ := Lq.end h2 h3 ht3 (fun x hx => hr x (by simp only [opn, List.mem_append] at hx ⊢; exact Or.inr hx))
    refine ⟨f0, ?_, e2, ?_, e4, e5⟩
    · rw [← e1]
      cases r with
      | nil => rfl
      | cons e r => rfl
    · rw [e3]
      show _ = whole g r (g.done.app (.cons f.l (f.done.app f.rest) .nil))
      rw [h1, Fo.app_nil']
      exact whole_app (f := { g with done := g.done.app (.cons f.l f.done .nil) }) _ g rfl _ rfl

end Go.Proofs.Ytgnbafgglkncmaa

/-
  own: a node without its kids, with room for them.
-/
namespace Go.Proofs.Ytgnbafgglkncmaa
open Go.RowKit
set_option linter.unusedVariables false
set_option linter.unusedSimpArgs false

/-- make, of none, with room. -/
theorem make_kids (w : World) (n : Nat) (h0 : 0 < n) (h1 : n ≤ 100000) :
    ∃ w1, (Instr.makeSlice 23 (.int .i64 0) (.int .i64 (n : Int))).run Try.prog w = .ok (.slice (some ⟨w.heap.size, 0, none⟩) 0 n) w1 ∧ OwnK 6 w1 25 (.slice (ko w.heap.size n) 0 n) 0 [] ∧ Kp [] w w1 := by
  obtain ⟨i, hi0, hi1, hi2, hi3⟩ := info_parts info25t
  have hr := run_make (P := Try.prog) w 23 25 i _ Try.underlying23 hi0 hi1 .i64 .i64 0 (n : Int) (Int.le_refl _) (by omega) (by rw [hi3]; omega) (by omega)
  rw [show ((n : Int)).toNat = n by omega] at hr
  refine ⟨_, hr, ?_, (Kp.refl _ _).alloc _⟩
  unfold ko
  rw [if_neg (by omega)]
  exact ownK_new 6 w 25 _ [] 0 n rfl (by omega) (by unfold maxLen; omega) (by rw [size_madeCells, hi2]; exact Nat.le_refl _) (fun j hj => by omega)

set_option maxRecDepth 100000 in
set_option maxHeartbeats 2000000 in
theorem own_node (w : World) (b off : Nat) (l : Lb) (p : Pl) (hc : Cl w b off l p) (hpn : p.1.2.1 = 0) (hm : p.2.2.1 ≤ 100000) (h1 : l.name.size ≤ 1000000) (h2 : l.text.size ≤ 1000000) :
    Calls Try.prog 37 #[.pointer (some ⟨b, off, none⟩)] w fun e w' => ∃ g, e = .returned (.agg #[.int .i64 l.kind, .int .i64 l.ns, .string l.name, .slice none 0 0, .string l.text, .slice (ko g p.2.2.1) 0 p.2.2.1]) ∧ Kp [] w w' ∧ OwnK 6 w' 25 (.slice (ko g p.2.2.1) 0 p.2.2.1) 0 [] ∧ ∀ x, x ∈ blk (.slice (ko g p.2.2.1) 0 p.2.2.1) → w.heap.size ≤ x := by
  obtain ⟨s, hs⟩ : ∃ s, w.heap.size = s := ⟨_, rfl⟩
  obtain ⟨B, hB⟩ : ∃ B, B = w.alloc (.cells #[.int .i64 0, .int .i64 0, .string ⟨#[]⟩, .slice none 0 0, .string ⟨#[]⟩, .slice none 0 0] 25) := ⟨_, rfl⟩
  have kB : Kp [] w B := by rw [hB]; exact (Kp.refl _ _).alloc _
  have A0 : At B s #[.int .i64 0, .int .i64 0, .string ⟨#[]⟩, .slice none 0 0, .string ⟨#[]⟩, .slice none 0 0] 25 := by rw [hB, ← hs]; exact At.new _ _ _
  have HW : Hid (w.alloc (.cells #[.int .i64 0, .int .i64 0, .string ⟨#[]⟩, .slice none 0 0, .string ⟨#[]⟩, .slice none 0 0] 25) = B) := hB.symm
  have CLk : Hid (∀ W, Kp [] B W → Cl W b off l p) := fun W kW => (hc.keep kB (by simp)).keep kW (by simp)
  have SB : Hid (s < B.heap.size) := A0.lt
  have KB : Hid (Kp [] w B) := kB
  have HN : Hid (∀ W, Calls Try.prog 57 #[.string l.name] W fun e w' => e = .returned (.string l.name) ∧ Kp [] W w') := fun W => clone_any W l.name (by omega)
  have HT : Hid (∀ W, Calls Try.prog 57 #[.string l.text] W fun e w' => e = .returned (.string l.text) ∧ Kp [] W w') := fun W => clone_any W l.text (by omega)
  clear hc hB kB
  obtain ⟨⟨pa, pn, pcap⟩, bo, m, d⟩ := p
  simp only at hpn hm ⊢
  subst hpn
  go_enter Try.func37, Try.ntmps37
  go_wp2_with fail
  rw [HW.out]
  clear HW
  go_cut [3] from 6 to 60 (fun x3 wc => ∃ g3, x3 = .pointer (some ⟨g3, 0, none⟩) ∧ At wc g3 #[.int .i64 l.kind, .int .i64 l.ns, .string l.name, .slice none 0 0, .string l.text, .slice none 0 0] 25 ∧ Kp [] B wc ∧ B.heap.size ≤ g3)
  case first =>
    obtain ⟨U0, hU0⟩ : ∃ V, V = B.drew := ⟨_, rfl⟩
    have k0 : Kp [] B U0 := by rw [hU0]; exact (Kp.refl _ _).drew
    refine wp_region_g (S := fun V => Cl V b off l ((pa, 0, pcap), (bo, m, d))) (T := [20]) (by kernel_rfl) (CLk.out _ (Kp.refl [] B).drew) (fun hHeld => ?_)
    rw [← hU0] at hHeld ⊢
    clear hU0
    refine wpAnyG_pure (i := 0) (oi := { dst := some 6, op := Go.Op.move (Go.Operand.tmp 0), type := 52, pos := "tree.go:86", after := #[], guard := none }) (v := ?_) rfl (by kernel_rfl) (by kernel_rfl) (by kernel_rfl) (by kernel_rfl) (fun _ _ _ h => h) (Or.inl ⟨by rfl, ?_⟩) (by assumption) ?_
    rotate_left
    · (intro w; go_simp; try with_reducible rfl)
    simp only [Act.put, List.setIfInBounds_toArray, List.set_cons_zero, List.set_cons_succ]
    refine wpAnyG_pure (i := 1) (oi := { dst := some 7, op := Go.Op.nilCheck (Go.Operand.tmp 6), type := 0, pos := "tree.go:86", after := #[{ on := 0, ground := Go.Ground.data }], guard := none }) (v := ?_) rfl (by kernel_rfl) (by kernel_rfl) (by kernel_rfl) (by kernel_rfl) (fun _ _ _ h => h) (Or.inl ⟨by rfl, ?_⟩) (by assumption) ?_
    rotate_left
    · (intro w; go_simp; try with_reducible rfl)
    simp only [Act.put, List.setIfInBounds_toArray, List.set_cons_zero, List.set_cons_succ]
    refine wpAnyG_pure (i := 2) (oi := { dst := some 8, op := Go.Op.fieldAddr 25 (Go.Operand.tmp 7) 0, type := 0, pos := "tree.go:86", after := #[{ on := 1, ground := Go.Ground.data }], guard := none }) (v := ?_) rfl (by kernel_rfl) (by kernel_rfl) (by kernel_rfl) (by kernel_rfl) (fun _ _ _ h => h) (Or.inl ⟨by rfl, ?_⟩) (by assumption) ?_
    rotate_left
    · (intro w; go_simp; try with_reducible rfl)
    simp only [Act.put, List.setIfInBounds_toArray, List.set_cons_zero, List.set_cons_succ]
    refine wpAnyG_take (i := 3) (oi := { dst := some 9, op := Go.Op.load 3 (Go.Operand.tmp 8), type := 3, pos := "tree.go:86", after := #[{ on := 2, ground := Go.Ground.data }], guard := none }) (v := ?_) rfl (by kernel_rfl) (by kernel_rfl) (by kernel_rfl) (by kernel_rfl) (fun _ _ _ h => h) (Or.inl ⟨by rfl, ?_⟩) (by assumption) ?_
    rotate_left
    · (intro w hSw; (obtain ⟨c0, c1, c2, c3, c4, c5⟩ := Cl.cells hSw); go_simp; try with_reducible rfl)
    simp only [Act.put, List.setIfInBounds_toArray, List.set_cons_zero, List.set_cons_succ]
    refine wpAnyG_pure (i := 4) (oi := { dst := some 10, op := Go.Op.move (Go.Operand.tmp 0), type := 52, pos := "tree.go:86", after := #[], guard := none }) (v := ?_) rfl (by kernel_rfl) (by kernel_rfl) (by kernel_rfl) (by kernel_rfl) (fun _ _ _ h => h) (Or.inl ⟨by rfl, ?_⟩) (by assumption) ?_
    rotate_left
    · (intro w; go_simp; try with_reducible rfl)
    simp only [Act.put, List.setIfInBounds_toArray, List.set_cons_zero, List.set_cons_succ]
    refine wpAnyG_pure (i := 5) (oi := { dst := some 11, op := Go.Op.nilCheck (Go.Operand.tmp 10), type := 0, pos := "tree.go:86", after := #[{ on := 4, ground := Go.Ground.data }], guard := none }) (v := ?_) rfl (by kernel_rfl) (by kernel_rfl) (by kernel_rfl) (by kernel_rfl) (fun _ _ _ h => h) (Or.inl ⟨by rfl, ?_⟩) (by assumption) ?_
    rotate_left
    · (intro w; go_simp; try with_reducible rfl)
    simp only [Act.put, List.setIfInBounds_toArray, List.set_cons_zero, List.set_cons_succ]
    refine wpAnyG_pure (i := 6) (oi := { dst := some 12, op := Go.Op.fieldAddr 25 (Go.Operand.tmp 11) 1, type := 0, pos := "tree.go:86", after := #[{ on := 5, ground := Go.Ground.data }], guard := none }) (v := ?_) rfl (by kernel_rfl) (by kernel_rfl) (by kernel_rfl) (by kernel_rfl) (fun _ _ _ h => h) (Or.inl ⟨by rfl, ?_⟩) (by assumption) ?_
    rotate_left
    · (intro w; go_simp; try with_reducible rfl)
    simp only [Act.put, List.setIfInBounds_toArray, List.set_cons_zero, List.set_cons_succ]
    refine wpAnyG_take (i := 7) (oi := { dst := some 13, op := Go.Op.load 3 (Go.Operand.tmp 12), type := 3, pos := "tree.go:86", after := #[{ on := 6, ground := Go.Ground.data }], guard := none }) (v := ?_) rfl (by kernel_rfl) (by kernel_rfl) (by kernel_rfl) (by kernel_rfl) (fun _ _ _ h => h) (Or.inl ⟨by rfl, ?_⟩) (by assumption) ?_
    rotate_left
    · (intro w hSw; (obtain ⟨c0, c1, c2, c3, c4, c5⟩ := Cl.cells hSw); go_simp; try with_reducible rfl)
    simp only [Act.put, List.setIfInBounds_toArray, List.set_cons_zero, List.set_cons_succ]
    refine wpAnyG_pure (i := 8) (oi := { dst := some 14, op := Go.Op.move (Go.Operand.tmp 0), type := 52, pos := "tree.go:86", after := #[], guard := none }) (v := ?_) rfl (by kernel_rfl) (by kernel_rfl) (by kernel_rfl) (by kernel_rfl) (fun _ _ _ h => h) (Or.inl ⟨by rfl, ?_⟩) (by assumption) ?_
    rotate_left
    · (intro w; go_simp; try with_reducible rfl)
    simp only [Act.put, List.setIfInBounds_toArray, List.set_cons_zero, List.set_cons_succ]
    refine wpAnyG_pure (i := 9) (oi := { dst := some 15, op := Go.Op.nilCheck (Go.Operand.tmp 14), type := 0, pos := "tree.go:86", after := #[{ on := 8, ground := Go.Ground.data }], guard := none }) (v := ?_) rfl (by kernel_rfl) (by kernel_rfl) (by kernel_rfl) (by kernel_rfl) (fun _ _ _ h => h) (Or.inl ⟨by rfl, ?_⟩) (by assumption) ?_
    rotate_left
    · (intro w; go_simp; try with_reducible rfl)
    simp only [Act.put, List.setIfInBounds_toArray, List.set_cons_zero, List.set_cons_succ]
    refine wpAnyG_pure (i := 10) (oi := { dst := some 16, op := Go.Op.fieldAddr 25 (Go.Operand.tmp 15) 2, type := 0, pos := "tree.go:86", after := #[{ on := 9, ground := Go.Ground.data }], guard := none }) (v := ?_) rfl (by kernel_rfl) (by kernel_rfl) (by kernel_rfl) (by kernel_rfl) (fun _ _ _ h => h) (Or.inl ⟨by rfl, ?_⟩) (by assumption) ?_
    rotate_left
    · (intro w; go_simp; try with_reducible rfl)
    simp only [Act.put, List.setIfInBounds_toArray, List.set_cons_zero, List.set_cons_succ]
    refine wpAnyG_take (i := 11) (oi := { dst := some 17, op := Go.Op.load 9 (Go.Operand.tmp 16), type := 9, pos := "tree.go:86", after := #[{ on := 10, ground := Go.Ground.data }], guard := none }) (v := ?_) rfl (by kernel_rfl) (by kernel_rfl) (by kernel_rfl) (by kernel_rfl) (fun _ _ _ h => h) (Or.inl ⟨by rfl, ?_⟩) (by assumption) ?_
    rotate_left
    · (intro w hSw; (obtain ⟨c0, c1, c2, c3, c4, c5⟩ := Cl.cells hSw); go_simp; try with_reducible rfl)
    simp only [Act.put, List.setIfInBounds_toArray, List.set_cons_zero, List.set_cons_succ]
    refine wpAnyG_pure (i := 13) (oi := { dst := some 19, op := Go.Op.move (Go.Operand.tmp 0), type := 52, pos := "tree.go:86", after := #[], guard := none }) (v := ?_) rfl (by kernel_rfl) (by kernel_rfl) (by kernel_rfl) (by kernel_rfl) (fun _ _ _ h => h) (Or.inl ⟨by rfl, ?_⟩) (by assumption) ?_
    rotate_left
    · (intro w; go_simp; try with_reducible rfl)
    simp only [Act.put, List.setIfInBounds_toArray, List.set_cons_zero, List.set_cons_succ]
    refine wpAnyG_pure (i := 14) (oi := { dst := some 20, op := Go.Op.nilCheck (Go.Operand.tmp 19), type := 0, pos := "tree.go:86", after := #[{ on := 13, ground := Go.Ground.data }], guard := none }) (v := ?_) rfl (by kernel_rfl) (by kernel_rfl) (by kernel_rfl) (by kernel_rfl) (fun _ _ _ h => h) (Or.inl ⟨by rfl, ?_⟩) (by assumption) ?_
    rotate_left
    · (intro w; go_simp; try with_reducible rfl)
    simp only [Act.put, List.setIfInBounds_toArray, List.set_cons_zero, List.set_cons_succ]
    refine wpAnyG_pure (i := 15) (oi := { dst := some 21, op := Go.Op.fieldAddr 25 (Go.Operand.tmp 20) 4, type := 0, pos := "tree.go:86", after := #[{ on := 14, ground := Go.Ground.data }], guard := none }) (v := ?_) rfl (by kernel_rfl) (by kernel_rfl) (by kernel_rfl) (by kernel_rfl) (fun _ _ _ h => h) (Or.inl ⟨by rfl, ?_⟩) (by assumption) ?_
    rotate_left
    · (intro w; go_simp; try with_reducible rfl)
    simp only [Act.put, List.setIfInBounds_toArray, List.set_cons_zero, List.set_cons_succ]
    refine wpAnyG_take (i := 16) (oi := { dst := some 22, op := Go.Op.load 9 (Go.Operand.tmp 21), type := 9, pos := "tree.go:86", after := #[{ on := 15, ground := Go.Ground.data }], guard := none }) (v := ?_) rfl (by kernel_rfl) (by kernel_rfl) (by kernel_rfl) (by kernel_rfl) (fun _ _ _ h => h) (Or.inl ⟨by rfl, ?_⟩) (by assumption) ?_
    rotate_left
    · (intro w hSw; (obtain ⟨c0, c1, c2, c3, c4, c5⟩ := Cl.cells hSw); go_simp; try with_reducible rfl)
    simp only [Act.put, List.setIfInBounds_toArray, List.set_cons_zero, List.set_cons_succ]
    refine wpAnyG_ready (rs := [12, 19]) (by kernel_rfl) (by simp) ?_
    refine AllReadyG.cons (o := { dst := some 18, op := Go.Op.call { callee := Go.Callee.value (Go.Operand.func 57), args := #[Go.Operand.tmp 17], argTypes := #[9] }, type := 9, pos := "tree.go:86", after := #[{ on := 11, ground := Go.Ground.data }], guard := none }) rfl (fun K hK => ?_) ?_
    · go_simp
      go_at_call 57
      refine (HN.out _).mono ?_
      rintro e U1 ⟨rfl, u1⟩
      go_wp2_with fail
      have k1 : Kp [] B U1 := k0.trans u1 (fun z hz => by simp at hz)
      refine hK.out _ _ (CLk.out _ k1) (fun hHeld1 => ?_)
      clear hK K hHeld
      try simp only [Act.put, List.setIfInBounds_toArray, List.set_cons_zero, List.set_cons_succ]
      refine wpAnyG_ready (rs := [17, 19]) (by kernel_rfl) (by simp) ?_
      refine AllReadyG.cons (o := { dst := some 23, op := Go.Op.call { callee := Go.Callee.value (Go.Operand.func 57), args := #[Go.Operand.tmp 22], argTypes := #[9] }, type := 9, pos := "tree.go:86", after := #[{ on := 16, ground := Go.Ground.data }, { on := 12, ground := Go.Ground.chain }], guard := none }) rfl (fun K hK => ?_) ?_
      · go_simp
        go_at_call 57
        refine (HT.out _).mono ?_
        rintro e U2 ⟨rfl, u2⟩
        go_wp2_with fail
        have k2 : Kp [] B U2 := k1.trans u2 (fun z hz => by simp at hz)
        refine hK.out _ _ (CLk.out _ k2) (fun hHeld2 => ?_)
        clear hK K hHeld1
        try simp only [Act.put, List.setIfInBounds_toArray, List.set_cons_zero, List.set_cons_succ]
        refine wpAnyG_pure (i := 18) (oi := { dst := some 24, op := Go.Op.build 25 #[(0, Go.Operand.tmp 9), (1, Go.Operand.tmp 13), (2, Go.Operand.tmp 18), (4, Go.Operand.tmp 23)], type := 25, pos := "tree.go:86", after := #[{ on := 3, ground := Go.Ground.data }, { on := 7, ground := Go.Ground.data }, { on := 12, ground := Go.Ground.data }, { on := 17, ground := Go.Ground.data }], guard := none }) (v := ?_) rfl (by kernel_rfl) (by kernel_rfl) (by kernel_rfl) (by kernel_rfl) (fun _ _ _ h => h) (Or.inl ⟨by rfl, ?_⟩) (by assumption) ?_
        rotate_left
        · (intro w; go_simp; try with_reducible rfl)
        simp only [Act.put, List.setIfInBounds_toArray, List.set_cons_zero, List.set_cons_succ]
        refine wpAnyG_ready (rs := [19]) (by kernel_rfl) (by simp) ?_
        refine AllReadyG.cons (o := { dst := some 3, op := Go.Op.alloc 25, type := 0, pos := "tree.go:86", after := #[], guard := none }) rfl (fun K hK => ?_) AllReadyG.nil
        go_simp
        obtain ⟨U3, hU⟩ : ∃ V, V = World.alloc U2 (.cells #[.int .i64 0, .int .i64 0, .string ⟨#[]⟩, .slice none 0 0, .string ⟨#[]⟩, .slice none 0 0] 25) := ⟨_, rfl⟩
        rw [← hU]
        have u3 : Kp [] U2 U3 := by rw [hU]; exact (Kp.refl _ _).alloc _
        have k3 : Kp [] B U3 := k2.trans u3 (fun z hz => by simp at hz)
        have T3 : At U3 U2.heap.size #[.int .i64 0, .int .i64 0, .string ⟨#[]⟩, .slice none 0 0, .string ⟨#[]⟩, .slice none 0 0] 25 := by rw [hU]; exact At.new _ _ _
        have n3 := k2.size
        obtain ⟨g3, hg3⟩ : ∃ g, U2.heap.size = g := ⟨_, rfl⟩
        rw [hg3] at T3 ⊢
        clear hU
        refine hK.out _ _ (CLk.out _ k3) (fun hHeld3 => ?_)
        clear hK K hHeld2
        try simp only [Act.put, List.setIfInBounds_toArray, List.set_cons_zero, List.set_cons_succ]
        refine wpAnyG_free (by kernel_rfl) ?_
        refine wpAny_ready (rs := [20]) (by kernel_rfl) (by simp) ?_
        refine AllReady.cons (o := { dst := none, op := Go.Op.store 25 (Go.Operand.tmp 3) (Go.Operand.tmp 24), type := 0, pos := "tree.go:86", after := #[{ on := 19, ground := Go.Ground.data }, { on := 18, ground := Go.Ground.data }, { on := 17, ground := Go.Ground.chain }, { on := 0, ground := Go.Ground.phase }, { on := 1, ground := Go.Ground.phase }, { on := 2, ground := Go.Ground.phase }, { on := 3, ground := Go.Ground.phase }, { on := 4, ground := Go.Ground.phase }, { on := 5, ground := Go.Ground.phase }, { on := 6, ground := Go.Ground.phase }, { on := 7, ground := Go.Ground.phase }, { on := 8, ground := Go.Ground.phase }, { on := 9, ground := Go.Ground.phase }, { on := 10, ground := Go.Ground.phase }, { on := 11, ground := Go.Ground.phase }, { on := 12, ground := Go.Ground.phase }, { on := 13, ground := Go.Ground.phase }, { on := 14, ground := Go.Ground.phase }, { on := 15, ground := Go.Ground.phase }, { on := 16, ground := Go.Ground.phase }, { on := 17, ground := Go.Ground.phase }, { on := 18, ground := Go.Ground.phase }, { on := 19, ground := Go.Ground.phase }], guard := none }) rfl (fun K hK => ?_) AllReady.nil
        obtain ⟨d20, d21, d22, d23, d24, d25⟩ := T3.six
        have fr2 := fun j => T3.free j
        go_simp
        refine hK _ _ ?_
        clear hK K
        try simp only [Act.put, List.setIfInBounds_toArray, List.set_cons_zero, List.set_cons_succ]
        refine wpAny_done (by kernel_rfl) ?_ _
        clear d20 d21 d22 d23 d24 d25 fr2
        obtain ⟨W, hW⟩ : ∃ F, F = putZ U3 g3 (.int .i64 l.kind) (.int .i64 l.ns) (.string l.name) (.slice none 0 0) (.string l.text) (.slice none 0 0) := ⟨_, rfl⟩
        have hWu := hW
        unfold putZ at hWu
        rw [← hWu]
        clear hWu
        have v3 : Kp [g3] U3 W := by rw [hW]; exact (Kp.refl _ _).putZ (g := g3) (Or.inl (by simp)) (.int .i64 l.kind) (.int .i64 l.ns) (.string l.name) (.slice none 0 0) (.string l.text) (.slice none 0 0)
        have T3 : At W g3 #[.int .i64 l.kind, .int .i64 l.ns, .string l.name, .slice none 0 0, .string l.text, .slice none 0 0] 25 := by rw [hW]; exact T3.putZ (.int .i64 l.kind) (.int .i64 l.ns) (.string l.name) (.slice none 0 0) (.string l.text) (.slice none 0 0)
        clear hW
        have kW : Kp [] B W := k3.trans v3 (fun z hz => Or.inr (by simp at hz; omega))
        go_wp2_with fail
        go_meet
        case rel => exact ⟨g3, rfl, T3, kW, by omega⟩
      refine AllReadyG.cons (o := { dst := some 3, op := Go.Op.alloc 25, type := 0, pos := "tree.go:86", after := #[], guard := none }) rfl (fun K hK => ?_) AllReadyG.nil
      go_simp
      obtain ⟨U2, hU⟩ : ∃ V, V = World.alloc U1 (.cells #[.int .i64 0, .int .i64 0, .string ⟨#[]⟩, .slice none 0 0, .string ⟨#[]⟩, .slice none 0 0] 25) := ⟨_, rfl⟩
      rw [← hU]
      have u2 : Kp [] U1 U2 := by rw [hU]; exact (Kp.refl _ _).alloc _
      have k2 : Kp [] B U2 := k1.trans u2 (fun z hz => by simp at hz)
      have T3 : At U2 U1.heap.size #[.int .i64 0, .int .i64 0, .string ⟨#[]⟩, .slice none 0 0, .string ⟨#[]⟩, .slice none 0 0] 25 := by rw [hU]; exact At.new _ _ _
      have n3 := k1.size
      obtain ⟨g3, hg3⟩ : ∃ g, U1.heap.size = g := ⟨_, rfl⟩
      rw [hg3] at T3 ⊢
      clear hU
      refine hK.out _ _ (CLk.out _ k2) (fun hHeld2 => ?_)
      clear hK K hHeld1
      try simp only [Act.put, List.setIfInBounds_toArray, List.set_cons_zero, List.set_cons_succ]
      refine wpAnyG_ready (rs := [17]) (by kernel_rfl) (by simp) ?_
      refine AllReadyG.cons (o := { dst := some 23, op := Go.Op.call { callee := Go.Callee.value (Go.Operand.func 57), args := #[Go.Operand.tmp 22], argTypes := #[9] }, type := 9, pos := "tree.go:86", after := #[{ on := 16, ground := Go.Ground.data }, { on := 12, ground := Go.Ground.chain }], guard := none }) rfl (fun K hK => ?_) AllReadyG.nil
      go_simp
      go_at_call 57
      refine (HT.out _).mono ?_
      rintro e U3 ⟨rfl, u3⟩
      go_wp2_with fail
      have k3 : Kp [] B U3 := k2.trans u3 (fun z hz => by simp at hz)
      have T3 := T3.kept u3 (by simp)
      refine hK.out _ _ (CLk.out _ k3) (fun hHeld3 => ?_)
      clear hK K hHeld2
      try simp only [Act.put, List.setIfInBounds_toArray, List.set_cons_zero, List.set_cons_succ]
      refine wpAnyG_pure (i := 18) (oi := { dst := some 24, op := Go.Op.build 25 #[(0, Go.Operand.tmp 9), (1, Go.Operand.tmp 13), (2, Go.Operand.tmp 18), (4, Go.Operand.tmp 23)], type := 25, pos := "tree.go:86", after := #[{ on := 3, ground := Go.Ground.data }, { on := 7, ground := Go.Ground.data }, { on := 12, ground := Go.Ground.data }, { on := 17, ground := Go.Ground.data }], guard := none }) (v := ?_) rfl (by kernel_rfl) (by kernel_rfl) (by kernel_rfl) (by kernel_rfl) (fun _ _ _ h => h) (Or.inl ⟨by rfl, ?_⟩) (by assumption) ?_
      rotate_left
      · (intro w; go_simp; try with_reducible rfl)
      simp only [Act.put, List.setIfInBounds_toArray, List.set_cons_zero, List.set_cons_succ]
      refine wpAnyG_free (by kernel_rfl) ?_
      refine wpAny_ready (rs := [20]) (by kernel_rfl) (by simp) ?_
      refine AllReady.cons (o := { dst := none, op := Go.Op.store 25 (Go.Operand.tmp 3) (Go.Operand.tmp 24), type := 0, pos := "tree.go:86", after := #[{ on := 19, ground := Go.Ground.data }, { on := 18, ground := Go.Ground.data }, { on := 17, ground := Go.Ground.chain }, { on := 0, ground := Go.Ground.phase }, { on := 1, ground := Go.Ground.phase }, { on := 2, ground := Go.Ground.phase }, { on := 3, ground := Go.Ground.phase }, { on := 4, ground := Go.Ground.phase }, { on := 5, ground := Go.Ground.phase }, { on := 6, ground := Go.Ground.phase }, { on := 7, ground := Go.Ground.phase }, { on := 8, ground := Go.Ground.phase }, { on := 9, ground := Go.Ground.phase }, { on := 10, ground := Go.Ground.phase }, { on := 11, ground := Go.Ground.phase }, { on := 12, ground := Go.Ground.phase }, { on := 13, ground := Go.Ground.phase }, { on := 14, ground := Go.Ground.phase }, { on := 15, ground := Go.Ground.phase }, { on := 16, ground := Go.Ground.phase }, { on := 17, ground := Go.Ground.phase }, { on := 18, ground := Go.Ground.phase }, { on := 19, ground := Go.Ground.phase }], guard := none }) rfl (fun K hK => ?_) AllReady.nil
      obtain ⟨d20, d21, d22, d23, d24, d25⟩ := T3.six
      have fr2 := fun j => T3.free j
      go_simp
      refine hK _ _ ?_
      clear hK K
      try simp only [Act.put, List.setIfInBounds_toArray, List.set_cons_zero, List.set_cons_succ]
      refine wpAny_done (by kernel_rfl) ?_ _
      clear d20 d21 d22 d23 d24 d25 fr2
      obtain ⟨W, hW⟩ : ∃ F, F = putZ U3 g3 (.int .i64 l.kind) (.int .i64 l.ns) (.string l.name) (.slice none 0 0) (.string l.text) (.slice none 0 0) := ⟨_, rfl⟩
      have hWu := hW
      unfold putZ at hWu
      rw [← hWu]
      clear hWu
      have v3 : Kp [g3] U3 W := by rw [hW]; exact (Kp.refl _ _).putZ (g := g3) (Or.inl (by simp)) (.int .i64 l.kind) (.int .i64 l.ns) (.string l.name) (.slice none 0 0) (.string l.text) (.slice none 0 0)
      have T3 : At W g3 #[.int .i64 l.kind, .int .i64 l.ns, .string l.name, .slice none 0 0, .string l.text, .slice none 0 0] 25 := by rw [hW]; exact T3.putZ (.int .i64 l.kind) (.int .i64 l.ns) (.string l.name) (.slice none 0 0) (.string l.text) (.slice none 0 0)
      clear hW
      have kW : Kp [] B W := k3.trans v3 (fun z hz => Or.inr (by simp at hz; omega))
      go_wp2_with fail
      go_meet
      case rel => exact ⟨g3, rfl, T3, kW, by omega⟩
    refine AllReadyG.cons (o := { dst := some 3, op := Go.Op.alloc 25, type := 0, pos := "tree.go:86", after := #[], guard := none }) rfl (fun K hK => ?_) AllReadyG.nil
    go_simp
    obtain ⟨U1, hU⟩ : ∃ V, V = World.alloc U0 (.cells #[.int .i64 0, .int .i64 0, .string ⟨#[]⟩, .slice none 0 0, .string ⟨#[]⟩, .slice none 0 0] 25) := ⟨_, rfl⟩
    rw [← hU]
    have u1 : Kp [] U0 U1 := by rw [hU]; exact (Kp.refl _ _).alloc _
    have k1 : Kp [] B U1 := k0.trans u1 (fun z hz => by simp at hz)
    have T3 : At U1 U0.heap.size #[.int .i64 0, .int .i64 0, .string ⟨#[]⟩, .slice none 0 0, .string ⟨#[]⟩, .slice none 0 0] 25 := by rw [hU]; exact At.new _ _ _
    have n3 := k0.size
    obtain ⟨g3, hg3⟩ : ∃ g, U0.heap.size = g := ⟨_, rfl⟩
    rw [hg3] at T3 ⊢
    clear hU
    refine hK.out _ _ (CLk.out _ k1) (fun hHeld1 => ?_)
    clear hK K hHeld
    try simp only [Act.put, List.setIfInBounds_toArray, List.set_cons_zero, List.set_cons_succ]
    refine wpAnyG_ready (rs := [12]) (by kernel_rfl) (by simp) ?_
    refine AllReadyG.cons (o := { dst := some 18, op := Go.Op.call { callee := Go.Callee.value (Go.Operand.func 57), args := #[Go.Operand.tmp 17], argTypes := #[9] }, type := 9, pos := "tree.go:86", after := #[{ on := 11, ground := Go.Ground.data }], guard := none }) rfl (fun K hK => ?_) AllReadyG.nil
    go_simp
    go_at_call 57
    refine (HN.out _).mono ?_
    rintro e U2 ⟨rfl, u2⟩
    go_wp2_with fail
    have k2 : Kp [] B U2 := k1.trans u2 (fun z hz => by simp at hz)
    have T3 := T3.kept u2 (by simp)
    refine hK.out _ _ (CLk.out _ k2) (fun hHeld2 => ?_)
    clear hK K hHeld1
    try simp only [Act.put, List.setIfInBounds_toArray, List.set_cons_zero, List.set_cons_succ]
    refine wpAnyG_ready (rs := [17]) (by kernel_rfl) (by simp) ?_
    refine AllReadyG.cons (o := { dst := some 23, op := Go.Op.call { callee := Go.Callee.value (Go.Operand.func 57), args := #[Go.Operand.tmp 22], argTypes := #[9] }, type := 9, pos := "tree.go:86", after := #[{ on := 16, ground := Go.Ground.data }, { on := 12, ground := Go.Ground.chain }], guard := none }) rfl (fun K hK => ?_) AllReadyG.nil
    go_simp
    go_at_call 57
    refine (HT.out _).mono ?_
    rintro e U3 ⟨rfl, u3⟩
    go_wp2_with fail
    have k3 : Kp [] B U3 := k2.trans u3 (fun z hz => by simp at hz)
    have T3 := T3.kept u3 (by simp)
    refine hK.out _ _ (CLk.out _ k3) (fun hHeld3 => ?_)
    clear hK K hHeld2
    try simp only [Act.put, List.setIfInBounds_toArray, List.set_cons_zero, List.set_cons_succ]
    refine wpAnyG_pure (i := 18) (oi := { dst := some 24, op := Go.Op.build 25 #[(0, Go.Operand.tmp 9), (1, Go.Operand.tmp 13), (2, Go.Operand.tmp 18), (4, Go.Operand.tmp 23)], type := 25, pos := "tree.go:86", after := #[{ on := 3, ground := Go.Ground.data }, { on := 7, ground := Go.Ground.data }, { on := 12, ground := Go.Ground.data }, { on := 17, ground := Go.Ground.data }], guard := none }) (v := ?_) rfl (by kernel_rfl) (by kernel_rfl) (by kernel_rfl) (by kernel_rfl) (fun _ _ _ h => h) (Or.inl ⟨by rfl, ?_⟩) (by assumption) ?_
    rotate_left
    · (intro w; go_simp; try with_reducible rfl)
    simp only [Act.put, List.setIfInBounds_toArray, List.set_cons_zero, List.set_cons_succ]
    refine wpAnyG_free (by kernel_rfl) ?_
    refine wpAny_ready (rs := [20]) (by kernel_rfl) (by simp) ?_
    refine AllReady.cons (o := { dst := none, op := Go.Op.store 25 (Go.Operand.tmp 3) (Go.Operand.tmp 24), type := 0, pos := "tree.go:86", after := #[{ on := 19, ground := Go.Ground.data }, { on := 18, ground := Go.Ground.data }, { on := 17, ground := Go.Ground.chain }, { on := 0, ground := Go.Ground.phase }, { on := 1, ground := Go.Ground.phase }, { on := 2, ground := Go.Ground.phase }, { on := 3, ground := Go.Ground.phase }, { on := 4, ground := Go.Ground.phase }, { on := 5, ground := Go.Ground.phase }, { on := 6, ground := Go.Ground.phase }, { on := 7, ground := Go.Ground.phase }, { on := 8, ground := Go.Ground.phase }, { on := 9, ground := Go.Ground.phase }, { on := 10, ground := Go.Ground.phase }, { on := 11, ground := Go.Ground.phase }, { on := 12, ground := Go.Ground.phase }, { on := 13, ground := Go.Ground.phase }, { on := 14, ground := Go.Ground.phase }, { on := 15, ground := Go.Ground.phase }, { on := 16, ground := Go.Ground.phase }, { on := 17, ground := Go.Ground.phase }, { on := 18, ground := Go.Ground.phase }, { on := 19, ground := Go.Ground.phase }], guard := none }) rfl (fun K hK => ?_) AllReady.nil
    obtain ⟨d20, d21, d22, d23, d24, d25⟩ := T3.six
    have fr2 := fun j => T3.free j
    go_simp
    refine hK _ _ ?_
    clear hK K
    try simp only [Act.put, List.setIfInBounds_toArray, List.set_cons_zero, List.set_cons_succ]
    refine wpAny_done (by kernel_rfl) ?_ _
    clear d20 d21 d22 d23 d24 d25 fr2
    obtain ⟨W, hW⟩ : ∃ F, F = putZ U3 g3 (.int .i64 l.kind) (.int .i64 l.ns) (.string l.name) (.slice none 0 0) (.string l.text) (.slice none 0 0) := ⟨_, rfl⟩
    have hWu := hW
    unfold putZ at hWu
    rw [← hWu]
    clear hWu
    have v3 : Kp [g3] U3 W := by rw [hW]; exact (Kp.refl _ _).putZ (g := g3) (Or.inl (by simp)) (.int .i64 l.kind) (.int .i64 l.ns) (.string l.name) (.slice none 0 0) (.string l.text) (.slice none 0 0)
    have T3 : At W g3 #[.int .i64 l.kind, .int .i64 l.ns, .string l.name, .slice none 0 0, .string l.text, .slice none 0 0] 25 := by rw [hW]; exact T3.putZ (.int .i64 l.kind) (.int .i64 l.ns) (.string l.name) (.slice none 0 0) (.string l.text) (.slice none 0 0)
    clear hW
    have kW : Kp [] B W := k3.trans v3 (fun z hz => Or.inr (by simp at hz; omega))
    go_wp2_with fail
    go_meet
    case rel => exact ⟨g3, rfl, T3, kW, by omega⟩
  obtain ⟨g3, rfl, T3, kc, hg3⟩ := hcut
  have A0 := A0.kept kc (by simp)
  have KC : Hid (Kp [] w wc) := KB.out.trans kc (fun z hz => by simp at hz)
  have sB := SB.out
  clear HN HT SB KB
  obtain ⟨c0, c1, c2, c3, c4, c5⟩ := (CLk.out _ kc).cells
  go_wp2_with fail
  go_loopw [30] (fun x30 wr => x30 = .int .i64 0 ∧ wr = wc) (fun x30 wr => 0)
  case atStart => exact ⟨rfl, rfl⟩
  case round =>
    obtain ⟨rfl, hw⟩ := hrel
    have hw2 := hw.symm
    clear hw
    subst hw2
    by_cases hm0 : m = 0
    · subst hm0
      obtain ⟨d0, d1, d2, d3, d4, d5⟩ := T3.six
      obtain ⟨f0, f1, f2, f3, f4, f5⟩ := A0.six
      have fr := fun j => A0.free j
      have D : Hid _ := (A0.putZ (.int .i64 l.kind) (.int .i64 l.ns) (.string l.name) (.slice none 0 0) (.string l.text) (.slice none 0 0)).six
      have KZ : Hid (Kp [] w (putZ wc s (.int .i64 l.kind) (.int .i64 l.ns) (.string l.name) (.slice none 0 0) (.string l.text) (.slice none 0 0))) := KC.out.putZ (g := s) (Or.inr (by omega)) _ _ _ _ _ _
      unfold putZ at D KZ
      clear A0 T3 CLk
      go_wp2
      obtain ⟨x0, x1, x2, x3, x4, x5⟩ := D.out
      refine bodyPost_ret (v := .agg #[.int .i64 l.kind, .int .i64 l.ns, .string l.name, .slice none 0 0, .string l.text, .slice none 0 0]) (by simp [results, go_sem, x0, x1, x2, x3, x4, x5]) rfl ⟨0, rfl, KZ.out, ⟨rfl, Or.inl ⟨rfl, rfl⟩⟩, fun x hx => by simp [ko, blk] at hx⟩
    · have hmp : 0 < m := by omega
      have bm : decide ((m : Int) > 0) = true := decide_eq_true (by omega)
      go_upto_region 8 with fail
      obtain ⟨w1, hmk, O1, K1⟩ := make_kids wc m hmp hm
      have n1 := KC.out.size
      obtain ⟨gk, hgk⟩ : ∃ g, wc.heap.size = g := ⟨_, rfl⟩
      rw [hgk] at hmk O1
      have T3a := T3.kept K1 (by simp)
      have A0a := A0.kept K1 (by simp)
      have cl3 := T3.lt
      obtain ⟨d0, d1, d2, d3, d4, d5⟩ := T3a.six
      have fd := fun j => T3a.free j
      go_upto_region 9 with fail
      clear hmk d0 d1 d2 d3 d4 d5 fd
      obtain ⟨F, hF⟩ : ∃ F, F = World.setCell w1 ⟨g3, 5, none⟩ (.slice (some ⟨gk, 0, none⟩) 0 m) := ⟨_, rfl⟩
      rw [← hF]
      have vF : Kp [g3] w1 F := by rw [hF]; exact (Kp.refl _ _).setCell (Or.inl (by simp)) _
      have T3b : At F g3 #[.int .i64 l.kind, .int .i64 l.ns, .string l.name, .slice none 0 0, .string l.text, .slice (some ⟨gk, 0, none⟩) 0 m] 25 := by rw [hF]; exact T3a.set 5 _
      have A0b := A0a.kept vF (by simp; omega)
      have hko : ko gk m = some ⟨gk, 0, none⟩ := by unfold ko; rw [if_neg hm0]
      have O2 := O1.keep vF (fun x hx => by rw [hko] at hx; simp [blk] at hx; simp; omega)
      have v9 : Kp [s] F (putZ F s (.int .i64 l.kind) (.int .i64 l.ns) (.string l.name) (.slice none 0 0) (.string l.text) (.slice (some ⟨gk, 0, none⟩) 0 m)) := (Kp.refl _ _).putZ (g := s) (Or.inl (by simp)) _ _ _ _ _ _
      have O3 : Hid (OwnK 6 (putZ F s (.int .i64 l.kind) (.int .i64 l.ns) (.string l.name) (.slice none 0 0) (.string l.text) (.slice (some ⟨gk, 0, none⟩) 0 m)) 25 (.slice (ko gk m) 0 m) 0 []) := O2.keep v9 (fun x hx => by rw [hko] at hx; simp [blk] at hx; simp; omega)
      have D : Hid _ := (A0b.putZ (.int .i64 l.kind) (.int .i64 l.ns) (.string l.name) (.slice none 0 0) (.string l.text) (.slice (some ⟨gk, 0, none⟩) 0 m)).six
      have KZ : Hid (Kp [] w (putZ F s (.int .i64 l.kind) (.int .i64 l.ns) (.string l.name) (.slice none 0 0) (.string l.text) (.slice (some ⟨gk, 0, none⟩) 0 m))) := ((KC.out.trans K1 (fun z hz => by simp at hz)).trans vF (fun z hz => Or.inr (by simp at hz; omega))).trans v9 (fun z hz => Or.inr (by simp at hz; omega))
      obtain ⟨d0, d1, d2, d3, d4, d5⟩ := T3b.six
      obtain ⟨f0, f1, f2, f3, f4, f5⟩ := A0b.six
      have fr := fun j => A0b.free j
      have HKO : Hid (ko gk m = some ⟨gk, 0, none⟩) := hko
      unfold putZ at D KZ O3
      clear hF vF T3b A0b O2 v9 O1 K1 T3a A0a T3 A0 hko CLk
      go_wp2
      obtain ⟨x0, x1, x2, x3, x4, x5⟩ := D.out
      refine bodyPost_ret (v := .agg #[.int .i64 l.kind, .int .i64 l.ns, .string l.name, .slice none 0 0, .string l.text, .slice (some ⟨gk, 0, none⟩) 0 m]) (by simp [results, go_sem, x0, x1, x2, x3, x4, x5]) rfl ⟨gk, by rw [HKO.out], KZ.out, O3.out, fun x hx => by rw [HKO.out] at hx; simp [blk] at hx; omega⟩

end Go.Proofs.Ytgnbafgglkncmaa

/-
  A pile of pointers.
-/
namespace Go.Proofs.Ytgnbafgglkncmaa
open Go.RowKit
set_option linter.unusedVariables false

theorem info52t : (Try.prog.info? 52).map (fun i => (i.zero, i.size, i.bytes)) = some (some (.pointer none), 1, 8) := by kernel_rfl
theorem zv52 (w : World) : (zeroValue 52).run Try.prog w = .ok (.pointer none) w := by kernel_rfl

theorem pt_new (w : World) : Calls Try.prog 30 #[] w fun e w' => e = .returned (.pointer (some ⟨w.heap.size, 0, none⟩)) ∧ w' = w.alloc (.cells #[.slice none 0 0] 85) := by
  go_enter Try.func30, Try.ntmps30
  go_wp2
  go_ret
  exact ⟨rfl, rfl⟩

theorem pt_len (w : World) (p : Nat) (v : Value) (n : Nat) (xs : List Value) (h : Pk 1 w 85 52 p v n xs) :
    Calls Try.prog 34 #[.pointer (some ⟨p, 0, none⟩)] w fun e w' => e = .returned (.int .i64 (n : Int)) ∧ w' = w := by
  obtain ⟨ao, c, rfl, hc, hf, _⟩ := h.out
  clear h
  go_enter Try.func34, Try.ntmps34
  go_wp2
  go_ret
  exact ⟨rfl, rfl⟩

set_option maxHeartbeats 1000000 in
theorem pt_push (w : World) (p : Nat) (v : Value) (n : Nat) (xs : List Value) (a : Addr) (h : Pk 1 w 85 52 p v n xs) (hl : n < 100000) :
    Calls Try.prog 31 #[.pointer (some ⟨p, 0, none⟩), .pointer (some a)] w fun e w' => e = .returned (.tuple #[]) ∧ Tk 1 w w' 85 52 p v (n + 1) (xs ++ [.pointer (some a)]) := by
  obtain ⟨ao, c, rfl, hc, hf, hnc, hpl, _⟩ := h.out
  obtain ⟨hp, hown, hpb⟩ := h
  obtain ⟨w1, hw1⟩ : ∃ w1, w1 = w.alloc (.cells #[.pointer (some a)] 52) := ⟨_, rfl⟩
  have hk1 : Kp [] w w1 := by rw [hw1]; exact (Kp.refl _ _).alloc _
  have hown1 : OwnK 1 w1 52 (.slice ao n c) n xs := hown.keep hk1 (fun _ _ => by simp)
  have hq : w1.heap[w.heap.size]? = some (.cells #[.pointer (some a)] 52 (0, 0)) := by rw [hw1]; exact heap_new _ _
  obtain ⟨v', w2, hrun, hown2, hk2, hb2, a2, c2, hv2⟩ := appK Try.underlying83 info52t rfl (by decide) w1 _ n xs hown1 _ 1 _ (src_new Try.underlying83 hq [.pointer (some a)] rfl (fun u hu => by simp at hu; rw [hu]; rfl)) (fun _ => by omega) (by omega)
  have hsz : w1.heap.size = w.heap.size + 1 := by rw [hw1]; simp
  have hp2 : w2.heap[p]? = some (.cells #[.slice ao n c] 85 (0, 0)) := by
    rw [hk2.block p (by omega) hpb, hk1.block p hpl (by simp)]; exact hp
  have hc2 : w2.cell? ⟨p, 0, none⟩ = some (.slice ao n c) := by rw [cell_of hp2]; rfl
  have hf2 : w2.frozen? ⟨p, 0, none⟩ = false := frozen_of hp2 0
  have hfin : Hid (Tk 1 w (w2.setCell ⟨p, 0, none⟩ v') 85 52 p (.slice ao n c) (n + 1) (xs ++ [.pointer (some a)])) := by
    refine Tk.mk hpl hp2 hpb hown2 ((hk1.mono (T := p :: blk _) (fun y hy => by simp at hy)).trans hk2 (fun y hy => Or.inl (by simp [hy]))) (fun k hk => ?_)
    rcases hb2 k hk with h1 | h1
    · exact Or.inl h1
    · right; omega
  rw [hw1] at hrun
  subst hv2
  have hc1 : (w.alloc (.cells #[.pointer (some a)] 52)).cell? ⟨p, 0, none⟩ = some (.slice ao n c) := by rw [← hw1]; exact cell_of ((hk1.block p hpl (by simp)).trans hp) 0
  clear hk1 hown1 hown2 hk2 hb2 hp2 hown hq hsz hw1 hp hpb
  go_enter Try.func31, Try.ntmps31
  go_wp2_with (at_builtin; refine Lib.wpList_append_run _ rfl _ _ _ _ rfl _ _ rfl rfl _ _ (hrun _) ?_)
  go_end0
  exact ⟨rfl, hfin.out⟩

theorem pt_holds_in (w : World) (p : Nat) (v : Value) (n : Nat) (xs : List Value) (i : Nat) (h : Pk 1 w 85 52 p v n xs) (h1 : i < n) :
    Calls Try.prog 71 #[.pointer (some ⟨p, 0, none⟩), .int .i64 i] w fun e w' => e = .returned (.bool true) ∧ w' = w := by
  obtain ⟨ao, c, rfl, hc, hf, _⟩ := h.out
  clear h
  have h2 : (0 : Int) ≤ (i : Int) := by omega
  have h3 : (i : Int) < (n : Int) := by omega
  go_enter Try.func71, Try.ntmps71
  go_wp2
  go_ret
  exact ⟨rfl, rfl⟩

set_option maxHeartbeats 1000000 in
theorem pt_at_in (w : World) (p : Nat) (v : Value) (n : Nat) (xs : List Value) (i : Nat) (a : Addr) (h : Pk 1 w 85 52 p v n xs) (h1 : i < n) (e0 : xs[i]? = some (.pointer (some a))) (hn : n < 1000000) :
    Calls Try.prog 56 #[.pointer (some ⟨p, 0, none⟩), .int .i64 i] w fun e w' => e = .returned (.tuple #[.pointer (some a), .bool true]) ∧ w' = w := by
  have hh := pt_holds_in w p v n xs i h h1
  obtain ⟨ao, c, hv, hc, hf, hnc, hpl, hcs⟩ := h.out
  obtain ⟨g, o, rfl, hgp, hcs⟩ := hcs (by omega)
  have c0 := (hcs i (by omega)).1
  rw [e0] at c0
  have h2 : (0 : Int) ≤ (i : Int) := by omega
  have h3 : (i : Int) < (n : Int) := by omega
  clear h hcs hv e0
  go_enter Try.func56, Try.ntmps56
  go_wp2_with (go_at_call 71; refine hh.mono ?_; rintro e w' ⟨rfl, hw⟩; have hw2 := hw.symm; clear hw; subst hw2)
  go_ret2
  exact ⟨rfl, rfl⟩

set_option maxHeartbeats 1000000 in
theorem pt_delete (w : World) (g o n c : Nat) (xs ys : List Value) (hown : OwnK 1 w 52 (.slice (some ⟨g, o, none⟩) (n + 1) c) (n + 1) (xs ++ ys)) (hx : xs.length = n * 1) (hl : n < 100000) :
    Calls Try.prog 70 #[.slice (some ⟨g, o, none⟩) (n + 1) c, .int .i64 (n : Int), .int .i64 ((n : Int) + 1)] w fun e w' => e = .returned (.slice (some ⟨g, o, none⟩) n c) ∧ OwnK 1 w' 52 (.slice (some ⟨g, o, none⟩) n c) n xs ∧ Kp [g] w w' := by
  have HF : Hid (OwnK 1 (w.drew.setCells g (o + n * 1) [.pointer none]) 52 (.slice (some ⟨g, o, none⟩) n c) n xs ∧ Kp [g] w (w.drew.setCells g (o + n * 1) [.pointer none])) :=
    ⟨(hown.keep (Kp.refl [] w).drew (fun _ _ => by simp)).pop hx rfl, Kp.setCells g (Or.inl (by simp)) _ _ _ (Kp.refl _ _).drew⟩
  rw [Nat.mul_one] at HF
  have hnc : n + 1 ≤ c := by
    rcases hown.2 with ⟨h1, _⟩ | ⟨g', o', cap', cur, hv, hg, h1, h2, h3, h4⟩
    · cases h1
    · simp only [Value.slice.injEq] at hv
      omega
  have HC : ∀ ty, (Builtin.clear_ #[83] ty #[.slice (some ⟨g, o + n, none⟩) 1 (c - n)]).run Try.prog w.drew = .ok (.tuple #[]) (w.drew.setCells g (o + n) [.pointer none]) := fun ty => by
    rcases hown.2 with ⟨h1, _⟩ | ⟨g', o', cap', cur, hv, hg, h1, h2, h3, h4⟩
    · cases h1
    · simp only [Value.slice.injEq, Option.some.injEq, Addr.mk.injEq] at hv
      obtain ⟨⟨rfl, rfl, _⟩, _, rfl⟩ := hv
      exact clear_one w.drew 83 52 ty (.pointer none) _ Try.underlying83 zv52 rfl (fun u hu => by simp at hu; rw [hu]; rfl) g (o + n) (c - n)
        (fun j hj => by
          show (w.cell? _).isSome = true
          simp at hj
          rw [cell_of hg, Array.getElem?_eq_getElem (by omega)]; rfl) (fun j hj => frozen_of (w := w) hg _)
  clear hown hx
  have i1 : (0 : Int) ≤ (n : Int) := by omega
  have i4 : (0 : Int) ≤ (n : Int) + 1 := by omega
  have i5 : (n : Int) ≤ (n : Int) + 1 := by omega
  by_cases hlt : n + 1 < c
  · have i2 : (n : Int) ≤ (c : Int) := by omega
    have i3 : (n : Int) + 1 ≤ (c : Int) := by omega
    have i6 : ¬ c = n + 1 := by omega
    have HB := app_none (P := Try.prog) Try.underlying83 info52t w.drew g o n c ⟨g, o + (n + 1), none⟩ (c - (n + 1)) (by omega)
    go_enter Try.func70, Try.ntmps70
    go_wp2_with fail
    go_region_held3 (fun _ => True) (trivial)
      (first | refine step_appR (by rfl) _ _ 83 (by rfl) _ _ (by rfl) (by rfl) HB ?_)
    go_wp2_with (at_builtin; refine wpList_clear_run _ rfl _ _ rfl _ rfl HC ?_)
    go_ret
    exact ⟨rfl, HF.out⟩
  · obtain rfl : c = n + 1 := by omega
    rw [show n + 1 - n = 1 by omega] at HC
    go_enter Try.func70, Try.ntmps70
    go_wp2_with fail
    go_region_held3 (fun _ => True) (trivial)
      (fail)
    go_wp2_with (at_builtin; refine wpList_clear_run _ rfl _ _ rfl _ rfl HC ?_)
    go_ret
    exact ⟨rfl, HF.out⟩

set_option maxRecDepth 100000 in
set_option maxHeartbeats 1000000 in
theorem pt_cut (w : World) (p : Nat) (v : Value) (n : Nat) (xs : List Value) (a : Addr) (h : Pk 1 w 85 52 p v (n + 1) (xs ++ [.pointer (some a)])) (hl : n < 100000) :
    Calls Try.prog 55 #[.pointer (some ⟨p, 0, none⟩), .int .i64 n] w fun e w' => e = .returned (.tuple #[.pointer (some a), .bool true]) ∧ Tk 1 w w' 85 52 p v n xs := by
  have hx : xs.length = n * 1 := by have := h.2.1.1; rw [List.length_append] at this; simp at this; omega
  have H1 := pt_at_in w p v (n + 1) _ n a h (by omega) (by rw [List.getElem?_append_right (by omega)]; simp [hx]) (by omega)
  obtain ⟨ao, c, rfl, hc, hf, hnc, hpl, hcs⟩ := h.out
  obtain ⟨g, o, rfl, hgp, _⟩ := hcs (by omega)
  obtain ⟨hp, hown, hpb⟩ := h
  have HD := pt_delete w g o n c xs _ hown hx hl
  have HF : Hid (∀ w3, OwnK 1 w3 52 (.slice (some ⟨g, o, none⟩) n c) n xs → Kp [g] w w3 → Tk 1 w (w3.setCell ⟨p, 0, none⟩ (.slice (some ⟨g, o, none⟩) n c)) 85 52 p (.slice (some ⟨g, o, none⟩) (n + 1) c) n xs) := fun w3 O3 K3 => by
    have P3 : w3.heap[p]? = some (.cells #[.slice (some ⟨g, o, none⟩) (n + 1) c] 85 (0, 0)) := (K3.block p hpl (by simp; omega)).trans hp
    exact Tk.mk hpl P3 hpb O3 (K3.mono (fun x hx => by simp at hx; subst hx; exact Or.inl (by simp [blk]))) (fun x hx => Or.inl (by simpa [blk] using hx))
  have HP : Hid (∀ w3, Kp [g] w w3 → w3.cell? ⟨p, 0, none⟩ = some (.slice (some ⟨g, o, none⟩) (n + 1) c) ∧ w3.frozen? ⟨p, 0, none⟩ = false) := fun w3 K3 => by
    have P3 : w3.heap[p]? = some (.cells #[.slice (some ⟨g, o, none⟩) (n + 1) c] 85 (0, 0)) := (K3.block p hpl (by simp; omega)).trans hp
    exact ⟨cell_of P3 0, frozen_of P3 0⟩
  clear hcs hp hown hpb hx
  have i1 : (n : Int) < 100000 := by omega
  go_enter Try.func55, Try.ntmps55
  go_wp2_with (first
    | (go_at_call 56; refine H1.mono ?_; rintro e w' ⟨rfl, hw⟩; have hw2 := hw.symm; clear hw; subst hw2)
    | (go_at_call 70; refine HD.mono ?_; rintro e w3 ⟨rfl, O3, K3⟩; obtain ⟨cp3, fp3⟩ := HP.out _ K3))
  go_ret2
  exact ⟨rfl, HF.out _ O3 K3⟩

set_option maxHeartbeats 1000000 in
theorem pt_pop (w : World) (p : Nat) (v : Value) (n : Nat) (xs : List Value) (a : Addr) (h : Pk 1 w 85 52 p v (n + 1) (xs ++ [.pointer (some a)])) (hl : n < 100000) :
    Calls Try.prog 35 #[.pointer (some ⟨p, 0, none⟩)] w fun e w' => e = .returned (.tuple #[.pointer (some a), .bool true]) ∧ Tk 1 w w' 85 52 p v n xs := by
  have H1 := pt_cut w p v n xs a h hl
  obtain ⟨ao, c, rfl, hc, hf, hnc, hpl, hcs⟩ := h.out
  clear hcs h
  have i1 : (n : Int) < 100000 := by omega
  go_enter Try.func35, Try.ntmps35
  go_wp2_with (go_at_call 55; refine H1.mono ?_; rintro e w2 ⟨rfl, T2⟩)
  go_ret2
  exact ⟨rfl, T2⟩

set_option maxHeartbeats 1000000 in
theorem pt_top (w : World) (p : Nat) (v : Value) (n : Nat) (xs : List Value) (a : Addr) (h : Pk 1 w 85 52 p v (n + 1) (xs ++ [.pointer (some a)])) (hl : n < 100000) :
    Calls Try.prog 36 #[.pointer (some ⟨p, 0, none⟩)] w fun e w' => e = .returned (.tuple #[.pointer (some a), .bool true]) ∧ w' = w := by
  have hx : xs.length = n * 1 := by have := h.2.1.1; rw [List.length_append] at this; simp at this; omega
  have H1 := pt_at_in w p v (n + 1) _ n a h (by omega) (by rw [List.getElem?_append_right (by omega)]; simp [hx]) (by omega)
  obtain ⟨ao, c, rfl, hc, hf, hnc, hpl, hcs⟩ := h.out
  clear hcs h hx
  have i1 : (n : Int) < 100000 := by omega
  go_enter Try.func36, Try.ntmps36
  go_wp2_with (go_at_call 56; refine H1.mono ?_; rintro e w2 ⟨rfl, hw⟩; have hw2 := hw.symm; clear hw; subst hw2)
  go_ret2
  exact ⟨rfl, rfl⟩

end Go.Proofs.Ytgnbafgglkncmaa

/-
  A copy under way: the nodes on the way, the pile of their addresses, the blocks that are done (K). No program.
-/
namespace Go.Proofs.Ytgnbafgglkncmaa
open Go.RowKit
set_option linter.unusedVariables false

/-- The addresses of the nodes on the way, the last one on top. -/
def ptC : Fq → List Fq → List Value
  | f, [] => [.pointer (some ⟨f.b, f.off, none⟩)]
  | f, g :: r => ptC g r ++ [.pointer (some ⟨f.b, f.off, none⟩)]

/-- All blocks of the copy. -/
def live (f : Fq) (r : List Fq) (K : List Nat) : List Nat := bot f r :: (opn (f :: r) ++ K)

structure Cq (B w : World) (P : Nat) (pv : Value) (own : List Nat) (f : Fq) (r : List Fq) (K : List Nat) : Prop where
  lq : Lq (· ∈ K) w f []
  un : Un (· ∈ K) w f r
  pile : Pk 1 w 85 52 P pv (r.length + 1) (ptC f r)
  nd : (live f r K).Nodup
  new : ∀ x, x ∈ live f r K → B.heap.size ≤ x ∧ x < w.heap.size
  ap : ∀ x, x ∈ live f r K → x ∉ P :: blk pv ∧ x ∉ own
  pw : ∀ x, x ∈ P :: blk pv → B.heap.size ≤ x ∧ x < w.heap.size ∧ x ∉ own

theorem live_opn {f : Fq} {r : List Fq} {K : List Nat} {x : Nat} (h : x ∈ opn (f :: r)) : x ∈ live f r K := by
  unfold live
  exact List.mem_cons_of_mem _ (List.mem_append_left _ h)
theorem live_k {f : Fq} {r : List Fq} {K : List Nat} {x : Nat} (h : x ∈ K) : x ∈ live f r K := by
  unfold live
  exact List.mem_cons_of_mem _ (List.mem_append_right _ h)
theorem live_bot {f : Fq} {r : List Fq} {K : List Nat} : bot f r ∈ live f r K := by
  unfold live
  exact List.mem_cons_self ..

/-- What others do to blocks that are not the copy's. -/
theorem Cq.other {B w w' : World} {P : Nat} {pv : Value} {own own' : List Nat} {f : Fq} {r : List Fq} {K : List Nat} (h : Cq B w P pv own f r K) {D : List Nat} (k : Kp D w w') (h1 : ∀ x, x ∈ live f r K → x ∉ D) (h2 : ∀ x, x ∈ P :: blk pv → x ∉ D) (ho : ∀ x, x ∈ own' → x ∈ own ∨ w.heap.size ≤ x) : Cq B w' P pv own' f r K := by
  have hsz := k.size
  have hs : Sm (· ∈ K) w w' := k.sms (fun x hx => h1 x (live_k hx))
  refine ⟨h.lq.keep k (fun x hx => h1 x (live_opn (by simp [opn, hx]))) hs, h.un.keep k hs (fun x hx => h1 x (live_opn (by simp [opn, hx]))) (h1 _ live_bot), h.pile.keep k (h2 _ (by simp)) (fun x hx => h2 x (by simp [hx])), h.nd, fun x hx => ⟨(h.new x hx).1, by have := (h.new x hx).2; omega⟩, fun x hx => ⟨(h.ap x hx).1, fun hx' => ?_⟩, fun x hx => ⟨(h.pw x hx).1, by have := (h.pw x hx).2.1; omega, fun hx' => ?_⟩⟩
  · rcases ho x hx' with h3 | h3
    · exact (h.ap x hx).2 h3
    · have := (h.new x hx).2; omega
  · rcases ho x hx' with h3 | h3
    · exact (h.pw x hx).2.2 h3
    · have := (h.pw x hx).2.1; omega

theorem Cq.kept {B w w' : World} {P : Nat} {pv : Value} {own : List Nat} {f : Fq} {r : List Fq} {K : List Nat} (h : Cq B w P pv own f r K) (k : Kp [] w w') : Cq B w' P pv own f r K := h.other k (fun _ _ => by simp) (fun _ _ => by simp) (fun x hx => Or.inl hx)

/-- The walk goes on. -/
theorem Cq.next {B w w' : World} {P : Nat} {pv : Value} {s : Ws} {v' : Value} {f : Fq} {r : List Fq} {K : List Nat} (h : Cq B w P pv s.own f r K) (n : Nx w w' s v') : Cq B w' P pv (s.at v').own f r K :=
  h.other n.kp (fun x hx => (h.ap x hx).2) (fun x hx => (h.pw x hx).2.2) n.own

theorem ptC_cons (f g : Fq) (r : List Fq) : ptC f (g :: r) = ptC g r ++ [.pointer (some ⟨f.b, f.off, none⟩)] := rfl

theorem ptC_top (f : Fq) (r : List Fq) : ∃ xs, ptC f r = xs ++ [.pointer (some ⟨f.b, f.off, none⟩)] := by
  cases r with
  | nil => exact ⟨[], rfl⟩
  | cons g r => exact ⟨_, rfl⟩

theorem ptC_done (g : Fq) (r : List Fq) (n' : Nat) (d' s' : Fo) : ptC { g with n := n', done := d', rest := s' } r = ptC g r := by cases r <;> rfl
theorem bot_done (g : Fq) (r : List Fq) (n' : Nat) (d' s' : Fo) : bot { g with n := n', done := d', rest := s' } r = bot g r := by cases r <;> rfl

theorem mem_perm {f g : Fq} {r : List Fq} {K : List Nat} {g' : Fq} (hb : bot g' r = bot g r) (hs : blk g'.sl = blk g.sl) : (live g' r (blk f.sl ++ K)).Perm (live f (g :: r) K) := by
  unfold live
  rw [hb, show bot f (g :: r) = bot g r from rfl]
  refine List.Perm.cons _ ?_
  simp only [opn, hs]
  rw [← List.append_assoc]
  refine List.Perm.trans (List.Perm.append_right K List.perm_append_comm) ?_
  simp only [List.append_assoc]
  exact List.Perm.refl _

/-- The one on top is done: it is popped. -/
theorem Cq.pop {B w w' : World} {P : Nat} {pv pv' : Value} {own : List Nat} {f g : Fq} {r : List Fq} {K : List Nat} (h : Cq B w P pv own f (g :: r) K) (hp : Pk 1 w' 85 52 P pv' (r.length + 1) (ptC g r)) (k : Kp (P :: blk pv) w w') (hb : ∀ x, x ∈ blk pv' → x ∈ blk pv ∨ w.heap.size ≤ x) (hown : ∀ x, x ∈ own → x < w.heap.size) :
    Cq B w' P pv' own { g with done := g.done.app (.cons f.l f.done .nil) } r (blk f.sl ++ K) := by
  have hsz := k.size
  have hs : Sm (· ∈ K) w w' := k.sms (fun x hx => (h.ap x (live_k hx)).1)
  have h1 : Lq (· ∈ K) w' f [] := h.lq.keep k (fun x hx => (h.ap x (live_opn (by simp [opn, hx]))).1) hs
  have h2 : Un (· ∈ K) w' f (g :: r) := h.un.keep k hs (fun x hx => (h.ap x (live_opn (by simp only [opn, List.mem_append] at hx ⊢; exact Or.inr hx))).1) (h.ap _ live_bot).1
  have hm : ∀ x, x < w'.heap.size → x ∈ K → x ∈ blk f.sl ++ K := fun x _ hx => List.mem_append_right _ hx
  obtain ⟨h3, h4⟩ := (h1.mono hm).close (h2.mono hm) (fun x hx => List.mem_append_left _ hx)
  have pm := mem_perm (f := f) (g := g) (r := r) (K := K) (g' := { g with done := g.done.app (.cons f.l f.done .nil) }) (bot_done g r g.n _ g.rest) rfl
  refine ⟨h3, h4, by rw [ptC_done g r g.n _ g.rest]; exact hp, pm.nodup_iff.2 h.nd, fun x hx => ?_, fun x hx => ?_, fun x hx => ?_⟩
  · have := h.new x (pm.mem_iff.1 hx)
    exact ⟨this.1, by omega⟩
  · have h5 := h.ap x (pm.mem_iff.1 hx)
    have h6 := h.new x (pm.mem_iff.1 hx)
    refine ⟨fun hx' => ?_, h5.2⟩
    rcases List.mem_cons.1 hx' with e | e
    · exact h5.1 (by simp [e])
    · rcases hb x e with e | e
      · exact h5.1 (by simp [e])
      · omega
  · have hpl := hp.2.1.lt
    rcases List.mem_cons.1 hx with e | e
    · have := h.pw x (by simp [e])
      exact ⟨this.1, by omega, this.2.2⟩
    · rcases hb x e with e' | e'
      · have := h.pw x (by simp [e'])
        exact ⟨this.1, by omega, this.2.2⟩
      · have h7 := hpl x e
        have h8 := (h.pw P (by simp)).1
        have h9 := (h.pw P (by simp)).2.1
        refine ⟨by omega, h7, fun ho => ?_⟩
        have := hown x ho
        omega

/-- What lies behind the last one does not matter. -/
theorem OwnK.beyond {w : World} {g n c : Nat} {zs ys : List Value} (h : OwnK 6 w 25 (.slice (ko g c) n c) n zs) (hn : n < c) (hy : ys.length = 6) : OwnK 6 (w.setCells g (n * 6) ys) 25 (.slice (ko g c) n c) n zs := by
  have hz := h.1
  obtain ⟨cur, hg, h1, h2, h3, h4⟩ := h.cells (by omega)
  have hm : (n + 1) * 6 ≤ c * 6 := Nat.mul_le_mul_right 6 hn
  obtain ⟨cur', hg', hs'⟩ := setCells_block g 25 ys (n * 6) w cur hg
  have hget := setCells_get g 25 ys (n * 6) w cur cur' hg hg' (by omega)
  refine OwnK.of_cells (by omega) hz hg' h1 h2 (by omega) (fun j hj => ?_)
  rw [hget, if_neg (by omega), h4 j hj]

/-- append, where there is room: its run. -/
theorem room_run {w : World} {g n c gz : Nat} {zs : List Value} (h : OwnK 6 w 25 (.slice (ko g c) n c) n zs) (hn : n < c) {cur : Array Value} (hz : At w gz cur 25) (ys : List Value) (hc : cur = ys.toArray) (hy : ys.length = 6) (h1 : ∀ u, u ∈ ys → u.oneCell' = true) :
    ∀ ty, (Builtin.append_ #[23, 23] ty #[.slice (some ⟨g, 0, none⟩) n c, .slice (some ⟨gz, 0, none⟩) 1 1]).run Try.prog w = .ok (.slice (some ⟨g, 0, none⟩) (n + 1) c) (w.setCells g (n * 6) ys) := fun ty => by
  obtain ⟨i, hi0, hi1, hi2, hi3⟩ := info_parts info25t
  obtain ⟨cur', hg, a1, a2, a3, a4⟩ := h.cells (by omega)
  have hm : (n + 1) * 6 ≤ c * 6 := Nat.mul_le_mul_right 6 hn
  have hs := src_new (P := Try.prog) Try.underlying23 hz ys hc h1
  rw [hy] at hs
  have := run_append_room_src (P := Try.prog) w 23 23 ty 25 i Try.underlying23 hi0 g 0 n c (.slice (some ⟨gz, 0, none⟩) 1 1) 1 ys (by rw [hi2]; exact hs) (by omega) (fun j hj => by
      rw [hi2, hg.cell, Array.getElem?_eq_getElem (by omega)]; rfl) (fun j hj => hg.free _)
  rwa [hi2, Nat.zero_add] at this

/-- One more under the one on top. w2: behind own and the new cells; w5: behind append and both stores. -/
theorem Cq.push {B w2 w5 w6 : World} {P : Nat} {pv pv' : Value} {own : List Nat} {f : Fq} {r : List Fq} {K : List Nat} {lb : Lb} {kd rs : Fo} {g2 : Nat} (h : Cq B w2 P pv own f r K) (hrest : f.rest = .cons lb kd rs) (ha : lb.attrs = [])
    (ho : OwnK 6 w2 25 (.slice (ko g2 kd.len) 0 kd.len) 0 []) (hn2 : ∀ x, x ∈ blk (.slice (ko g2 kd.len) 0 kd.len) → x ∉ live f r K ∧ B.heap.size ≤ x ∧ x ∉ P :: blk pv ∧ x ∉ own)
    (h5 : (∀ zs, OwnK 6 w2 25 (.slice (ko f.g f.c) f.n f.c) f.n zs → OwnK 6 w5 25 (.slice (ko f.g f.c) (f.n + 1) f.c) (f.n + 1) (zs ++ six lb ((none, 0, 0), (ko g2 kd.len, 0, kd.len)))) ∧ Un (· ∈ K) w5 { f with n := f.n + 1, done := f.done, rest := rs } r ∧ Kp [f.g, f.b] w2 w5)
    (hp : Pk 1 w6 85 52 P pv' (r.length + 1 + 1) (ptC f r ++ [.pointer (some ⟨f.g, f.n * 6, none⟩)])) (k6 : Kp (P :: blk pv) w5 w6) (hb : ∀ x, x ∈ blk pv' → x ∈ blk pv ∨ w5.heap.size ≤ x) (hown : ∀ x, x ∈ own → x < w2.heap.size) (hfb : f.b ∈ live f r K) :
    Cq B w6 P pv' own ⟨f.g, f.n * 6, lb, g2, 0, kd.len, .nil, kd⟩ ({ f with n := f.n + 1, done := f.done, rest := rs } :: r) K := by
  obtain ⟨h51, h52, h53⟩ := h5
  have s5 := h53.size
  have s6 := k6.size
  have hc0 : f.n + f.rest.len = f.c := by obtain ⟨zs, _, _, h3⟩ := h.lq; exact h3
  rw [hrest, Fo.len_cons] at hc0
  have hgl : f.g ∈ blk f.sl := by simp [Fq.sl, ko, show f.c ≠ 0 by omega, blk]
  have hgL : f.g ∈ live f r K := live_opn (by simp [opn, hgl])
  have hnd := h.nd
  -- the done ones are as they were
  have hKg : ∀ x, x ∈ K → x ≠ f.g ∧ x ≠ f.b := fun x hx => by
    unfold live at hnd hfb
    have h1 := (List.nodup_cons.1 hnd).1
    have h2 := (List.nodup_append.1 (List.nodup_cons.1 hnd).2).2.2
    refine ⟨fun e => h2 f.g (by simp [opn, hgl]) x hx e.symm, fun e => ?_⟩
    cases r with
    | nil => exact h1 (by rw [show bot f [] = f.b from rfl, ← e]; simp [hx])
    | cons g r =>
      obtain ⟨e1, _, _, _, ⟨zs, e5, _, _⟩, _⟩ := h.un
      have hgg : g.g ∈ opn (f :: g :: r) := by
        have hgc : g.c ≠ 0 := fun e0 => by
          have e6 := e5.1
          rw [List.length_append, Fq.six_len] at e6
          rcases e5.2 with ⟨e7, e8⟩ | ⟨g', o, cap, cur, hv, hg, e7, e8, e9, e10⟩
          · omega
          · unfold Fq.sl at hv
            simp only [Value.slice.injEq] at hv
            omega
        simp [opn, Fq.sl, ko, hgc, blk]
      exact h2 g.g hgg x hx (by rw [e, e1])
  have hsK : Sm (· ∈ K) w2 w6 := fun x hx hl => by
    rw [k6.block x (by omega) ((h.ap x (live_k hx)).1), h53.block x hl (by have := hKg x hx; simp; omega)]
  have hsK5 : Sm (· ∈ K) w5 w6 := k6.sms (fun x hx => (h.ap x (live_k hx)).1)
  obtain ⟨zs, z1, z2, z3⟩ := h.lq
  rw [List.append_nil] at z1
  have z4 := h51 zs z1
  have hno : ∀ x, x ∈ blk (.slice (ko g2 kd.len) 0 kd.len) → x ∉ [f.g, f.b] := fun x hx => by
    have := (hn2 x hx).1
    simp
    exact ⟨fun e => this (by rw [e]; exact hgL), fun e => this (by rw [e]; exact hfb)⟩
  have pm : (live ⟨f.g, f.n * 6, lb, g2, 0, kd.len, .nil, kd⟩ ({ f with n := f.n + 1, done := f.done, rest := rs } :: r) K).Perm (blk (.slice (ko g2 kd.len) 0 kd.len) ++ live f r K) := by
    unfold live
    rw [show bot (⟨f.g, f.n * 6, lb, g2, 0, kd.len, .nil, kd⟩ : Fq) ({ f with n := f.n + 1, done := f.done, rest := rs } :: r) = bot f r from bot_done f r _ _ _]
    have e1 : opn (⟨f.g, f.n * 6, lb, g2, 0, kd.len, .nil, kd⟩ :: { f with n := f.n + 1, done := f.done, rest := rs } :: r) = blk (.slice (ko g2 kd.len) 0 kd.len) ++ opn (f :: r) := by
      have e0 : ∀ (a : Option Addr) (n m c : Nat), blk (.slice a n c) = blk (.slice a m c) := fun a n m c => by cases a <;> rfl
      simp only [opn, Fq.sl]
      rw [e0 _ (f.n + 1) f.n]
    rw [e1, List.append_assoc]
    exact (List.perm_middle).symm
  refine ⟨⟨[], (ho.keep h53 hno).keep k6 (fun x hx => (hn2 x hx).2.2.1), rfl, by simp⟩, ⟨rfl, by simp, by simp, ha, ⟨zs, ?_, z2.keep hsK, ?_⟩, ?_⟩, ?_, pm.nodup_iff.2 ?_, fun x hx => ?_, fun x hx => ?_, fun x hx => ?_⟩
  · exact z4.keep k6 (fun x hx => by
      have e : x = f.g := by
        unfold ko at hx
        rw [if_neg (by omega)] at hx
        simpa [blk] using hx
      rw [e]; exact (h.ap _ hgL).1)
  · show f.n + 1 + rs.len = f.c
    omega
  · exact h52.keep k6 hsK5 (fun x hx => (h.ap x (live_opn (by simp [opn, hx]))).1) (by rw [bot_done]; exact (h.ap _ live_bot).1)
  · rw [ptC_cons, ptC_done]
    exact hp
  · rw [List.nodup_append]
    refine ⟨?_, h.nd, fun x hx y hy e => (hn2 x hx).1 (by rw [e]; exact hy)⟩
    unfold ko
    split <;> simp [blk]
  · rcases List.mem_append.1 (pm.mem_iff.1 hx) with e | e
    · have := ho.lt x e
      exact ⟨(hn2 x e).2.1, by omega⟩
    · have := h.new x e
      exact ⟨this.1, by omega⟩
  · have key : ∀ y, y < w2.heap.size → y ∉ P :: blk pv → y ∉ P :: blk pv' := fun y hy hny hy' => by
      rcases List.mem_cons.1 hy' with e | e
      · exact hny (by simp [e])
      · rcases hb y e with e | e
        · exact hny (by simp [e])
        · omega
    rcases List.mem_append.1 (pm.mem_iff.1 hx) with e | e
    · exact ⟨key x (ho.lt x e) (hn2 x e).2.2.1, (hn2 x e).2.2.2⟩
    · exact ⟨key x (h.new x e).2 (h.ap x e).1, (h.ap x e).2⟩
  · rcases List.mem_cons.1 hx with e | e
    · have := h.pw x (by simp [e])
      exact ⟨this.1, by omega, this.2.2⟩
    · rcases hb x e with e' | e'
      · have := h.pw x (by simp [e'])
        exact ⟨this.1, by omega, this.2.2⟩
      · have h7 := hp.2.1.lt x e
        have h8 := h.pw P (by simp)
        refine ⟨by omega, h7, fun ho' => ?_⟩
        have := hown x ho'
        omega

end Go.Proofs.Ytgnbafgglkncmaa

/-
  A copy under way: what append and the two stores behind it do. No program.
-/
namespace Go.Proofs.Ytgnbafgglkncmaa
open Go.RowKit
set_option linter.unusedVariables false

/-- The blocks are apart. -/
theorem Cq.apart {B w : World} {P : Nat} {pv : Value} {own : List Nat} {f : Fq} {r : List Fq} {K : List Nat} (h : Cq B w P pv own f r K) (hc : 0 < f.c) : f.b ∈ live f r K ∧ f.g ∈ live f r K ∧ f.b ≠ f.g ∧ f.b ∉ K ∧ f.g ∉ K ∧ f.g ∉ opn r ∧ bot f r ≠ f.g ∧ (opn r).Nodup ∧ bot f r ∉ opn r := by
  have hgl : f.g ∈ blk f.sl := by simp [Fq.sl, ko, show f.c ≠ 0 by omega, blk]
  have hgL : f.g ∈ live f r K := live_opn (by simp [opn, hgl])
  have hnd := h.nd
  unfold live at hnd
  obtain ⟨n1, n2⟩ := List.nodup_cons.1 hnd
  obtain ⟨n3, n4, n5⟩ := List.nodup_append.1 n2
  simp only [opn] at n1 n3 n5
  obtain ⟨n6, n7, n8⟩ := List.nodup_append.1 n3
  have hbg : bot f r ≠ f.g := fun e => n1 (by rw [e]; simp [hgl])
  have hbo : bot f r ∉ opn r := fun e => n1 (by simp [e])
  have hgK : f.g ∉ K := fun e => n5 f.g (by simp [hgl]) f.g e rfl
  have hgo : f.g ∉ opn r := fun e => n8 f.g hgl f.g e rfl
  have hb : f.b = bot f r ∨ f.b ∈ opn r := by
    cases r with
    | nil => exact Or.inl rfl
    | cons g r =>
      right
      obtain ⟨e1, _, _, _, ⟨zs, e5, _, _⟩, _⟩ := h.un
      have hgc : g.c ≠ 0 := fun e0 => by
        have e6 := e5.1
        rw [List.length_append, Fq.six_len] at e6
        rcases e5.2 with ⟨e7, e8⟩ | ⟨g', o, cap, cur, hv, hg, e7, e8, e9, e10⟩
        · omega
        · unfold Fq.sl at hv
          simp only [Value.slice.injEq] at hv
          omega
      rw [e1]
      simp [opn, Fq.sl, ko, hgc, blk]
  refine ⟨?_, hgL, ?_, ?_, hgK, hgo, hbg, n7, hbo⟩
  · rcases hb with e | e
    · rw [e]; exact live_bot
    · exact live_opn (by simp only [opn, List.mem_append]; exact Or.inr e)
  · rcases hb with e | e
    · rw [e]; exact hbg
    · exact fun e' => hgo (by rw [← e']; exact e)
  · rcases hb with e | e
    · rw [e]; exact fun hk => n1 (by simp [hk])
    · exact fun hk => n5 f.b (by simp [e]) f.b hk rfl

theorem blk_ko {g c n : Nat} : ∀ x, x ∈ blk (.slice (ko g c) n c) → x = g := fun x hx => by
  unfold ko at hx
  split at hx
  · simp [blk] at hx
  · simpa [blk] using hx

/-- append, the new one's cells, then the field. -/
theorem Cq.five {B w : World} {P : Nat} {pv : Value} {own : List Nat} {f : Fq} {r : List Fq} {K : List Nat} (h : Cq B w P pv own f r K) (hn : f.n < f.c) (ys : List Value) (hy : ys.length = 6) (zs' : List Value) (hz' : zs'.length = 6) (rs : Fo) :
    ((∀ zs, OwnK 6 w 25 (.slice (ko f.g f.c) f.n f.c) f.n zs → OwnK 6 (((w.setCells f.g (f.n * 6) zs').setCells f.g (f.n * 6) ys).setCell ⟨f.b, f.off + 5, none⟩ (.slice (ko f.g f.c) (f.n + 1) f.c)) 25 (.slice (ko f.g f.c) (f.n + 1) f.c) (f.n + 1) (zs ++ ys)) ∧ Un (· ∈ K) (((w.setCells f.g (f.n * 6) zs').setCells f.g (f.n * 6) ys).setCell ⟨f.b, f.off + 5, none⟩ (.slice (ko f.g f.c) (f.n + 1) f.c)) { f with n := f.n + 1, done := f.done, rest := rs } r ∧ Kp [f.g, f.b] w (((w.setCells f.g (f.n * 6) zs').setCells f.g (f.n * 6) ys).setCell ⟨f.b, f.off + 5, none⟩ (.slice (ko f.g f.c) (f.n + 1) f.c))) ∧
    ((∀ zs, OwnK 6 w 25 (.slice (ko f.g f.c) f.n f.c) f.n zs → OwnK 6 (((w.setCells f.g (f.n * 6) zs').setCell ⟨f.b, f.off + 5, none⟩ (.slice (ko f.g f.c) (f.n + 1) f.c)).setCells f.g (f.n * 6) ys) 25 (.slice (ko f.g f.c) (f.n + 1) f.c) (f.n + 1) (zs ++ ys)) ∧ Un (· ∈ K) (((w.setCells f.g (f.n * 6) zs').setCell ⟨f.b, f.off + 5, none⟩ (.slice (ko f.g f.c) (f.n + 1) f.c)).setCells f.g (f.n * 6) ys) { f with n := f.n + 1, done := f.done, rest := rs } r ∧ Kp [f.g, f.b] w (((w.setCells f.g (f.n * 6) zs').setCell ⟨f.b, f.off + 5, none⟩ (.slice (ko f.g f.c) (f.n + 1) f.c)).setCells f.g (f.n * 6) ys)) := by
  obtain ⟨_, _, a1, a2, a3, a4, a5, a6, a7⟩ := h.apart (by omega)
  have kX : Kp [f.g] w (w.setCells f.g (f.n * 6) zs') := Kp.setCells f.g (Or.inl (by simp)) _ _ _ (Kp.refl _ _)
  have kY : Kp [f.g] w ((w.setCells f.g (f.n * 6) zs').setCells f.g (f.n * 6) ys) := Kp.setCells f.g (Or.inl (by simp)) _ _ _ kX
  have sg : ∀ {V V' : World}, Kp [f.g] V V' → Sm (· ∈ K) V V' := fun k => k.sms (fun x hx => by simp; intro e; subst e; exact a3 hx)
  refine ⟨⟨fun zs hz => ?_, ?_, ?_⟩, ⟨fun zs hz => ?_, ?_, ?_⟩⟩
  · exact ((hz.beyond hn hz').room hn hy).keep ((Kp.refl [f.b] _).setCell (Or.inl (by simp)) _) (fun x hx => by rw [blk_ko x hx]; simp; exact fun e => a1 e.symm)
  · exact (h.un.keep kY (sg kY) (fun x hx => by simp; intro e; subst e; exact a4 hx) (by simp; exact a5)).turn (f.n + 1) f.done rs a2 a6 a7
  · exact (kY.mono (T := [f.g, f.b]) (fun x hx => Or.inl (by simp at hx; simp [hx]))).setCell (Or.inl (by simp)) _
  · exact ((hz.beyond hn hz').keep ((Kp.refl [f.b] _).setCell (Or.inl (by simp)) _) (fun x hx => by rw [blk_ko x hx]; simp; exact fun e => a1 e.symm)).room hn hy
  · have hX := (h.un.keep kX (sg kX) (fun x hx => by simp; intro e; subst e; exact a4 hx) (by simp; exact a5)).turn (f.n + 1) f.done rs a2 a6 a7
    have kZ : Kp [f.g] ((w.setCells f.g (f.n * 6) zs').setCell ⟨f.b, f.off + 5, none⟩ (.slice (ko f.g f.c) (f.n + 1) f.c)) (((w.setCells f.g (f.n * 6) zs').setCell ⟨f.b, f.off + 5, none⟩ (.slice (ko f.g f.c) (f.n + 1) f.c)).setCells f.g (f.n * 6) ys) := Kp.setCells f.g (Or.inl (by simp)) _ _ _ (Kp.refl _ _)
    exact hX.keep kZ (sg kZ) (fun x hx => by simp; intro e; subst e; exact a4 hx) (by rw [bot_done]; simp; exact a5)
  · exact Kp.setCells f.g (Or.inl (by simp)) _ _ _ ((kX.mono (T := [f.g, f.b]) (fun x hx => Or.inl (by simp at hx; simp [hx]))).setCell (Or.inl (by simp)) _)

/-- The last one's cells. -/
theorem last_cells {w : World} {g n c : Nat} {zs : List Value} {v0 v1 v2 v3 v4 v5 : Value} (h : OwnK 6 w 25 (.slice (ko g c) (n + 1) c) (n + 1) (zs ++ [v0, v1, v2, v3, v4, v5])) (hn : n < c) : (w.cell? ⟨g, n * 6, none⟩ = some v0 ∧ w.cell? ⟨g, n * 6 + 1, none⟩ = some v1 ∧ w.cell? ⟨g, n * 6 + 2, none⟩ = some v2 ∧ w.cell? ⟨g, n * 6 + 3, none⟩ = some v3 ∧ w.cell? ⟨g, n * 6 + 4, none⟩ = some v4 ∧ w.cell? ⟨g, n * 6 + 5, none⟩ = some v5) ∧ ∀ j, w.frozen? ⟨g, j, none⟩ = false := by
  have hz := h.1
  rw [List.length_append] at hz
  simp only [List.length_cons, List.length_nil] at hz
  have hz' : zs.length = n * 6 := by omega
  obtain ⟨cur, hg, a1, a2, a3, a4⟩ := h.cells (by omega)
  have key : ∀ j, j < 6 → w.cell? ⟨g, n * 6 + j, none⟩ = [v0, v1, v2, v3, v4, v5][j]? := fun j hj => by
    rw [hg.cell, a4 _ (by omega), List.getElem?_append_right (by omega), hz', show n * 6 + j - n * 6 = j by omega]
  exact ⟨⟨key 0 (by omega), key 1 (by omega), key 2 (by omega), key 3 (by omega), key 4 (by omega), key 5 (by omega)⟩, fun j => hg.free j⟩

/-- A label that Copy is asked of here. -/
def bareL (l : Lb) : Prop := l.attrs = [] ∧ l.name.size ≤ 1000000 ∧ l.text.size ≤ 1000000

/-- Nothing was told yet, or the top one was. -/
def Begun (l : Lb) (k : Fo) (r : List Fq) (S : List Vt) : Prop := (r = [] ∧ S = (Fo.cons l k .nil).vis 0) ∨ (r ≠ [] ∧ ∀ u, u ∈ S → 1 ≤ u.1)

theorem vis_ge (f : Fo) : ∀ d u, u ∈ f.vis d → d ≤ u.1 := by
  refine Fo.ind (P := fun f => ∀ d u, u ∈ f.vis d → d ≤ u.1) (fun d u h => by simp [vis_nil] at h) (fun l k r hk hr d u h => ?_) f
  rw [vis_cons, List.mem_cons, List.mem_append] at h
  rcases h with rfl | h | h
  · exact Nat.le_refl _
  · have := hk _ _ h; omega
  · exact hr _ _ h

theorem Begun.push {l : Lb} {k : Fo} {r : List Fq} {u : Vt} {S : List Vt} (h : Begun l k r (u :: S)) (f : Fq) : Begun l k (f :: r) S := by
  refine Or.inr ⟨by simp, fun v hv => ?_⟩
  rcases h with ⟨_, h⟩ | ⟨_, h⟩
  · rw [vis_cons, vis_nil, List.append_nil] at h
    simp only [List.cons.injEq] at h
    rw [h.2] at hv
    exact vis_ge k 1 v hv
  · exact h v (by simp [hv])

theorem Begun.pop {l : Lb} {k : Fo} {g : Fq} {r : List Fq} {u : Vt} {S : List Vt} (h : Begun l k (g :: r) (u :: S)) (hd : u.1 < r.length + 1) : Begun l k r (u :: S) := by
  rcases h with ⟨h, _⟩ | ⟨_, h⟩
  · cases h
  · have := h u (by simp)
    refine Or.inr ⟨fun e => ?_, h⟩
    subst e
    simp at hd
    omega

/-- When nothing is to come: the top one, and the one above it. -/
theorem Cq.last {B w : World} {P : Nat} {pv : Value} {own : List Nat} : ∀ {f : Fq} {r : List Fq} {K : List Nat}, Lq (· ∈ K) w f [] → Un (· ∈ K) w f r → (live f r K).Nodup → (∀ x, x ∈ live f r K → B.heap.size ≤ x) → tC f r = [] → r ≠ [] → ∃ f1 f0 K', Lq (· ∈ K') w f1 [] ∧ Un (· ∈ K') w f1 [f0] ∧ (live f1 [f0] K').Nodup ∧ (∀ x, x ∈ live f1 [f0] K' → B.heap.size ≤ x) ∧ f1.rest = .nil ∧ f0.rest = .nil ∧ f0.b = bot f r ∧ whole f1 [f0] f1.done = whole f r f.done
  | f, [], K, _, _, _, _, _, hr => absurd rfl hr
  | f, [g], K, h, hu, hn, hb, ht, _ => by
    have h1 := tC_nil ht
    have ht2 : tC g [] = [] := by
      simp only [tC, h1, vis_nil, List.nil_append] at ht ⊢
      exact ht
    exact ⟨f, g, K, h, hu, hn, hb, h1, tC_nil ht2, rfl, rfl⟩
  | f, g :: e :: r, K, h, hu, hn, hb, ht, _ => by
    have h1 := tC_nil ht
    have hm : ∀ x, x < w.heap.size → x ∈ K → x ∈ blk f.sl ++ K := fun x _ hx => List.mem_append_right _ hx
    obtain ⟨h3, h4⟩ := (h.mono hm).close (hu.mono hm) (fun x hx => List.mem_append_left _ hx)
    have pm := mem_perm (f := f) (g := g) (r := e :: r) (K := K) (g' := { g with done := g.done.app (.cons f.l f.done .nil) }) rfl rfl
    have ht2 : tC { g with done := g.done.app (.cons f.l f.done .nil) } (e :: r) = [] := by
      simp only [tC, h1, vis_nil, List.nil_append] at ht ⊢
      exact ht
    obtain ⟨f1, f0, K', a1, a2, a3, a4, a5, a6, a7, a8⟩ := Cq.last (B := B) (P := P) (pv := pv) (own := own) h3 h4 (pm.nodup_iff.2 hn) (fun x hx => hb x (pm.mem_iff.1 hx)) ht2 (by simp)
    refine ⟨f1, f0, K', a1, a2, a3, a4, a5, a6, a7, ?_⟩
    rw [a8]
    show _ = whole g (e :: r) (g.done.app (.cons f.l (f.done.app f.rest) .nil))
    rw [h1, Fo.app_nil']
    exact whole_app (f := { g with done := g.done.app (.cons f.l f.done .nil) }) _ g rfl _ rfl

/-- The loop of Copy. -/
def RCopy (B : World) (s : Ws) (P A : Nat) (l : Lb) (k : Fo) (p : Pl) (a : Value × Value × Value × World) (n : Nat) : Prop :=
  ∃ (S : List Vt) (v pv : Value) (ao : Option Addr) (d : Int) (y : Bool) (f : Fq) (r : List Fq) (K : List Nat), a.1 = .pointer ao ∧ a.2.1 = .int .i64 d ∧ a.2.2.1 = .bool y ∧ S.length = n ∧ Wl B a.2.2.2 (s.at v) S.tail l k p ∧ Come B a.2.2.2 (s.at v) S ao d y ∧ Cq B a.2.2.2 P pv (s.at v).own f r K ∧ tC f r = S ∧ whole f r f.done = .cons l k .nil ∧ bot f r = A ∧ (∀ u, u ∈ S → bareL u.2.1 ∧ u.1 ≤ 20001) ∧ r.length ≤ 20002 ∧ Begun l k r S

/-- The loop that pops. -/
def RPop (B : World) (s : Ws) (P A : Nat) (l : Lb) (k : Fo) (p : Pl) (v : Value) (u : Vt) (S : List Vt) (b off : Nat) (w : World) (n : Nat) : Prop :=
  ∃ (pv : Value) (f : Fq) (r : List Fq) (K : List Nat), Wl B w (s.at v) S l k p ∧ Told6 B w (s.at v) b off u.2.1 u.2.2 ∧ Cq B w P pv (s.at v).own f r K ∧ tC f r = u :: S ∧ whole f r f.done = .cons l k .nil ∧ bot f r = A ∧ r.length = n ∧ r.length ≤ 20002 ∧ Begun l k r (u :: S)

/-- It pops once more. -/
theorem RPop.pop {B w w' : World} {s : Ws} {P A : Nat} {l : Lb} {k : Fo} {p : Pl} {v : Value} {u : Vt} {S : List Vt} {b off : Nat} {pv pv' : Value} {f g : Fq} {r : List Fq} {K : List Nat} (L : Wl B w (s.at v) S l k p) (T : Told6 B w (s.at v) b off u.2.1 u.2.2) (C : Cq B w P pv (s.at v).own f (g :: r) K) (ht : tC f (g :: r) = u :: S) (hw : whole f (g :: r) f.done = .cons l k .nil) (hA : bot f (g :: r) = A) (hd : u.1 < r.length + 1) (hr : r.length + 1 ≤ 20002) (hbg : Begun l k (g :: r) (u :: S))
    (hp : Pk 1 w' 85 52 P pv' (r.length + 1) (ptC g r)) (kk : Kp (P :: blk pv) w w') (hb : ∀ x, x ∈ blk pv' → x ∈ blk pv ∨ w.heap.size ≤ x) : RPop B s P A l k p v u S b off w' r.length := by
  have hrest : f.rest = .nil := (tC_deep ht).2 (by simpa using hd)
  have ht2 : tC g r = u :: S := by
    simp only [tC, hrest, vis_nil, List.nil_append] at ht
    exact ht
  have e1 : ∀ x, x ∈ P :: blk pv → B.heap.size ≤ x := fun x hx => (C.pw x hx).1
  have e2 : ∀ x, x ∈ (s.at v).own → x ∉ P :: blk pv := fun x hx hx' => (C.pw x hx').2.2 hx
  refine ⟨pv', { g with done := g.done.app (.cons f.l f.done .nil) }, r, blk f.sl ++ K, L.other kk e1 e2, T.keep kk e1 e2, C.pop hp kk hb L.lt, ?_, ?_, ?_, rfl, by omega, hbg.pop hd⟩
  · cases r with
    | nil => exact ht2
    | cons e r => exact ht2
  · have : whole f (g :: r) f.done = whole g r (g.done.app (.cons f.l (f.done.app f.rest) .nil)) := rfl
    rw [this, hrest, Fo.app_nil'] at hw
    rw [← hw]
    exact whole_app (f := { g with done := g.done.app (.cons f.l f.done .nil) }) _ g rfl _ rfl
  · rw [← hA]
    exact bot_done g r g.n _ g.rest

end Go.Proofs.Ytgnbafgglkncmaa

/-
  Copy.
-/
namespace Go.Proofs.Ytgnbafgglkncmaa
open Go.RowKit
set_option linter.unusedVariables false
set_option linter.unusedSimpArgs false

theorem fo_inj {l l' : Lb} {k k' r r' : Fo} (h : Fo.cons l k r = Fo.cons l' k' r') : l = l' ∧ k = k' ∧ r = r' := by
  unfold Fo.cons at h
  simp only [Fo.mk.injEq, heq_eq_eq, true_and] at h
  exact ⟨congrFun h.1 rfl, congrFun h.2.1 rfl, congrFun h.2.2 rfl⟩

theorem whole_cnt_le : ∀ {f : Fq} {r : List Fq} (d : Fo), d.cnt + f.rest.cnt ≤ (whole f r d).cnt
  | f, [], d => by simp only [whole, Fo.cnt_app]; omega
  | f, g :: r, d => by
    have := whole_cnt_le (f := g) (r := r) (g.done.app (.cons f.l (d.app f.rest) .nil))
    simp only [Fo.cnt_app, Fo.cnt_cons, Fo.cnt_nil] at this
    simp only [whole]
    omega

theorem whole_cnt {f : Fq} {r : List Fq} {l : Lb} {k s : Fo} (h : f.rest = .cons l k s) : k.cnt < (whole f r f.done).cnt := by
  have h1 := whole_cnt_le (f := f) (r := r) f.done
  rw [h, Fo.cnt_cons] at h1
  omega

set_option maxRecDepth 100000 in
set_option maxHeartbeats 4000000 in
theorem copy_tree (w : World) (l : Lb) (k : Fo) (p : Pl) (h : Nd Any w l k p) (hl : (Fo.cons l k .nil).Each bareL) (hn : k.cnt ≤ 20000) :
    Calls Try.prog 12 #[wv l p] w fun e w' => ∃ (g : Nat) (zs : List Value), e = .returned (wv l ((none, 0, 0), (ko g k.len, k.len, k.len))) ∧ OwnK 6 w' 25 (.slice (ko g k.len) k.len k.len) k.len zs ∧ Lf (fun z => w.heap.size ≤ z ∧ z ≠ g) w' k zs ∧ w.heap.size ≤ g ∧ Kp [] w w' := by
  obtain ⟨s0, hs⟩ : ∃ s, w.heap.size = s := ⟨_, rfl⟩
  obtain ⟨B, hB⟩ : ∃ B, B = (w.alloc (.cells (six l p).toArray 25)).alloc (.cells #[.int .i64 0, .int .i64 0, .string ⟨#[]⟩, .slice none 0 0, .string ⟨#[]⟩, .slice none 0 0] 25) := ⟨_, rfl⟩
  have kB : Kp [] w B := by rw [hB]; exact ((Kp.refl _ _).alloc _).alloc _
  have A1 : At B s0 (six l p).toArray 25 := by
    rw [hB, ← hs]; exact (At.new _ _ _).kept ((Kp.refl [] _).alloc _) (by simp)
  have A2 : At B (s0 + 1) #[.int .i64 0, .int .i64 0, .string ⟨#[]⟩, .slice none 0 0, .string ⟨#[]⟩, .slice none 0 0] 25 := by
    rw [hB, ← hs]; exact At.new' _ _ _ _ (by simp)
  have HW : Hid ((w.alloc (.cells #[.int .i64 l.kind, .int .i64 l.ns, .string l.name, .slice p.1.1 p.1.2.1 p.1.2.2, .string l.text, .slice p.2.1 p.2.2.1 p.2.2.2] 25)).alloc (.cells #[.int .i64 0, .int .i64 0, .string ⟨#[]⟩, .slice none 0 0, .string ⟨#[]⟩, .slice none 0 0] 25) = B) := hB.symm
  have SB : Hid (B.heap.size = s0 + 2) := by show B.heap.size = s0 + 2; rw [hB, ← hs]; simp
  have KB : Hid (Kp [] w B) := kB
  have HS : Hid (w.heap.size = s0) := hs
  have HV : Hid (∀ u, u ∈ (Fo.cons l k .nil).vis 0 → bareL u.2.1 ∧ u.1 ≤ 20001) := fun u hu => by
    refine ⟨vis_each _ 0 hl u hu, ?_⟩
    have h1 := vis_deep _ 0 u hu
    have h2 := Fo.dep_le_cnt (.cons l k .nil)
    rw [Fo.cnt_cons, Fo.cnt_nil] at h2
    omega
  have HBG : Hid (∀ V, Kp [] B V → Calls Try.prog 32 #[wv l p] V fun e w' => ∃ s, e = .returned (.pointer (some ⟨s.P, 0, none⟩)) ∧ Wl B w' s ((Fo.cons l k .nil).vis 0) l k p ∧ Kp [] V w' ∧ ∀ x, x ∈ s.own → V.heap.size ≤ x) := fun V kV => begin_c B V l k p kV (h.kept kB) hn
  simp only [six] at A1
  clear h hl hn hB kB
  simp only [wv] at HBG ⊢
  go_enter Try.func12, Try.ntmps12
  go_upto_region 1 with fail
  rw [HW.out]
  clear HW
  obtain ⟨w1, hmk, O1, K1⟩ := make_kids B 1 (by omega) (by omega)
  have hmk1 : (Instr.makeSlice 23 (.int .i64 0) (.int .i64 1)).run Try.prog B = .ok (.slice (some ⟨B.heap.size, 0, none⟩) 0 1) w1 := hmk
  clear hmk
  go_upto_region 2 with fail
  clear hmk1
  obtain ⟨W2, hW2⟩ : ∃ W, W = w1.alloc (.cells #[.int .i64 0, .int .i64 0, .string ⟨#[]⟩, .slice none 0 0, .string ⟨#[]⟩, .slice (some ⟨B.heap.size, 0, none⟩) 0 1] 25) := ⟨_, rfl⟩
  rw [← hW2]
  have k12 : Kp [] w1 W2 := by rw [hW2]; exact (Kp.refl _ _).alloc _
  have TA : At W2 w1.heap.size #[.int .i64 0, .int .i64 0, .string ⟨#[]⟩, .slice none 0 0, .string ⟨#[]⟩, .slice (some ⟨B.heap.size, 0, none⟩) 0 1] 25 := by rw [hW2]; exact At.new _ _ _
  have O2 := O1.keep k12 (fun _ _ => by simp)
  have zA : B.heap.size < w1.heap.size := by
    have := O1.lt B.heap.size (by simp [ko, blk])
    exact this
  have zA2 : w1.heap.size < W2.heap.size := TA.lt
  have kB2 : Kp [] B W2 := K1.trans k12 (fun z hz => by simp at hz)
  obtain ⟨A, hA⟩ : ∃ A, w1.heap.size = A := ⟨_, rfl⟩
  obtain ⟨gA, hgA⟩ : ∃ g, B.heap.size = g := ⟨_, rfl⟩
  rw [hA] at TA zA zA2 ⊢
  rw [hgA] at TA zA O2
  clear hW2 k12 K1 O1
  go_upto_region 3 with (go_at_call 30; refine (pt_new _).mono ?_; rintro e W3 ⟨rfl, hW3⟩)
  try rw [← hW3]
  have k23 : Kp [] W2 W3 := by rw [hW3]; exact (Kp.refl _ _).alloc _
  obtain ⟨P, hP⟩ : ∃ P, W2.heap.size = P := ⟨_, rfl⟩
  have PK : Pk 1 W3 85 52 P (.slice none 0 0) 0 [] := ⟨by rw [hW3, ← hP]; exact heap_new _ _, ⟨rfl, Or.inl ⟨rfl, rfl⟩⟩, by simp [blk]⟩
  have zP : P < W3.heap.size := (Array.getElem?_eq_some_iff.1 PK.1).1
  rw [hP] at zA2 ⊢
  have HPU := pt_push W3 P _ 0 [] ⟨A, 0, none⟩ PK (by omega)
  clear hW3
  go_upto_region 4 with fail
  refine HPU.mono ?_
  rintro e W4 ⟨rfl, pv0, PK4, k34, hb4⟩
  go_upto_region 4 with fail
  clear HPU PK
  have kB4 : Kp [] B W4 := (kB2.trans k23 (fun z hz => by simp at hz)).trans k34 (fun z hz => Or.inr (by simp [blk] at hz; have := kB2.size; omega))
  have k24 : Kp [P] W2 W4 := (k23.mono (T := [P]) (fun z hz => by simp at hz)).trans k34 (fun z hz => Or.inl (by simpa [blk] using hz))
  have C4 : Cq B W4 P pv0 [] ⟨A, 0, (0, 0, ⟨#[]⟩, [], ⟨#[]⟩), gA, 0, 1, .nil, .cons l k .nil⟩ [] [] := by
    have hs4 := k34.size
    have hbl : ∀ x, x ∈ blk pv0 → P < x ∧ x < W4.heap.size := fun x hx => by
      refine ⟨?_, PK4.2.1.lt x hx⟩
      rcases hb4 x hx with h1 | h1
      · simp [blk] at h1
      · omega
    have hlv : ∀ x, x ∈ live (⟨A, 0, (0, 0, ⟨#[]⟩, [], ⟨#[]⟩), gA, 0, 1, .nil, .cons l k .nil⟩ : Fq) [] [] → x = A ∨ x = gA := fun x hx => by
      simpa [live, bot, opn, Fq.sl, ko, blk] using hx
    refine ⟨⟨[], O2.keep k24 (fun x hx => by simp [ko, blk] at hx; simp; omega), rfl, rfl⟩, ⟨TA.kept k24 (by simp; omega), rfl⟩, PK4, ?_, fun x hx => ?_, fun x hx => ⟨fun hx' => ?_, by simp⟩, fun x hx => ?_⟩
    · simp [live, bot, opn, Fq.sl, ko, blk]; omega
    · rcases hlv x hx with e | e <;> omega
    · rcases List.mem_cons.1 hx' with e | e
      · rcases hlv x hx with e' | e' <;> omega
      · have := hbl x e
        rcases hlv x hx with e' | e' <;> omega
    · refine ⟨?_, ?_, by simp⟩
      · rcases List.mem_cons.1 hx with e | e
        · omega
        · have := hbl x e; omega
      · rcases List.mem_cons.1 hx with e | e
        · omega
        · exact (hbl x e).2
  have A1' := A1.kept kB4 (by simp)
  obtain ⟨c0, c1, c2, c3, c4, c5⟩ := A1'.six
  have GA : Hid (B.heap.size = gA) := hgA
  clear PK4 k34 hb4 k24 k23 O2 TA kB2 A1' A1 hgA hA hP zA zA2 zP
  go_upto_region 5 with (go_at_call 32; refine (HBG.out _ kB4).mono ?_; rintro e W5 ⟨s, rfl, L5, k45, hso⟩)
  clear c0 c1 c2 c3 c4 c5 HBG
  have C5 : Cq B W5 P pv0 s.own _ [] [] := C4.other k45 (fun _ _ => by simp) (fun _ _ => by simp) (fun x hx => Or.inr (hso x hx))
  clear C4 k45 hso kB4
  go_wp2_with (go_at_call 33; refine (next_c _ _ _ _ _ _ _ L5).mono ?_; rintro e W6 ⟨ao, d, y, v1, rfl, L6, N6, C6⟩)
  have Q6 := C5.next N6
  obtain ⟨μ, hμ⟩ := least_of (RCopy B s P A l k p)
  go_loopw [6, 7, 8] (fun x6 x7 x8 wr => ∃ n, RCopy B s P A l k p (x6, x7, x8, wr) n) (fun x6 x7 x8 wr => μ (x6, x7, x8, wr))
  case atStart => exact ⟨_, _, v1, pv0, ao, d, y, _, [], [], rfl, rfl, rfl, rfl, L6, C6, Q6, rfl, rfl, rfl, HV.out, by simp, Or.inl ⟨rfl, rfl⟩⟩
  case round =>
    clear L6 N6 C6 Q6 C5 L5 HV
    obtain ⟨n0, hrel⟩ := hrel
    obtain ⟨S, v, pv, ao, d, y, f, r, Kd, h1, h2, h3, hS, L, C, Q, ht, hw, hbot, hbare, hrl, hbg⟩ := (hμ _ _ hrel).1
    simp only at h1 h2 h3
    subst h1 h2 h3
    have HM : Hid (∀ a n, RCopy B s P A l k p a n → μ a ≤ n) := fun a n hn => (hμ a n hn).2
    have HS2 : Hid (S.length = μ (.pointer ao, .int .i64 d, .bool y, wr)) := hS
    clear hrel hμ hS
    cases S with
    | nil =>
      obtain ⟨rfl, rfl, rfl⟩ := C
      clear HM HS2 hbare
      have hsz := L.kp.size
      have sB := SB.out
      have hr0 : r ≠ [] := by
        rcases hbg with ⟨_, h⟩ | ⟨h, _⟩
        · rw [vis_cons] at h; cases h
        · exact h
      obtain ⟨f1, f0, K', e1, e2, e3, e4, e5, e6, e7, e8⟩ := Cq.last (B := B) (P := P) (pv := pv) (own := []) Q.lq Q.un Q.nd (fun x hx => (Q.new x hx).1) ht hr0
      rw [hw] at e8
      obtain ⟨a1, a2, a3, a4, ⟨ys, b1, b2, b3⟩, b4, b5⟩ := e2
      simp only [whole, e5, e6, Fo.app_nil'] at e8
      have hl0 : f0.done.len = 0 := by
        have := congrArg Fo.len e8
        rw [Fo.len_app, Fo.len_cons, Fo.len_cons] at this
        omega
      have hd0 := Fo.len_zero.1 hl0
      rw [hd0, Fo.app_nil] at e8
      obtain ⟨g1, g2, _⟩ := fo_inj e8
      rw [hd0] at b2
      have hy0 := Lf.nil_iff.1 b2
      rw [hy0, List.nil_append] at b1
      have hn1 : f0.n = 1 := by have := b1.1; rw [Fq.six_len] at this; omega
      have hc1 : f0.c = 1 := by rw [e6, Fo.len_nil] at b3; omega
      unfold Fq.sl at b1
      rw [hn1, hc1] at b1
      obtain ⟨cur, T0, _, _, _, c4⟩ := OwnK.cells b1 (by omega)
      obtain ⟨zs, z1, z2, z3⟩ := e1
      rw [e5, Fo.len_nil, Nat.add_zero] at z3
      rw [List.append_nil] at z1
      unfold Fq.sl at z1
      rw [g2] at z2
      have hkl : f1.c = k.len := by have h1 := z1.1; have h2 := z2.len; omega
      rw [z3, hkl] at z1
      have hpl : f1.pl = ((none, 0, 0), (ko f1.g k.len, k.len, k.len)) := by unfold Fq.pl; rw [z3, hkl]
      have c5 := b4.cell 5
      have hb0 : f0.b = A := by rw [e7, hbot]
      have key : ∀ j, j < 6 → wr.cell? ⟨f0.g, j, none⟩ = (six l ((none, 0, 0), (ko f1.g k.len, k.len, k.len)))[j]? := fun j hj => by
        rw [T0.cell, c4 j (by omega)]
        unfold Fq.six
        rw [hpl, g1]
      have t0 : wr.cell? ⟨f0.g, 0, none⟩ = some (.int .i64 l.kind) := key 0 (by omega)
      have t1 : wr.cell? ⟨f0.g, 1, none⟩ = some (.int .i64 l.ns) := key 1 (by omega)
      have t2 : wr.cell? ⟨f0.g, 2, none⟩ = some (.string l.name) := key 2 (by omega)
      have t3 : wr.cell? ⟨f0.g, 3, none⟩ = some (.slice none 0 0) := key 3 (by omega)
      have t4 : wr.cell? ⟨f0.g, 4, none⟩ = some (.string l.text) := key 4 (by omega)
      have t5 : wr.cell? ⟨f0.g, 5, none⟩ = some (.slice (ko f1.g k.len) k.len k.len) := key 5 (by omega)
      have cA : wr.cell? ⟨A, 5, none⟩ = some (.slice (some ⟨f0.g, 0, none⟩) 1 1) := by
        rw [← hb0]
        refine c5.trans ?_
        simp only [Fq.six, Fq.pl, six, hn1, hc1]
        rfl
      have LF : Lf (fun z => B.heap.size ≤ z ∧ z ≠ f1.g) wr k zs := by
        rcases Nat.eq_zero_or_pos k.len with h0 | h0
        · have : k = .nil := Fo.len_zero.1 h0
          subst this
          have h1 := Lf.nil_iff.1 z2
          rw [h1]; exact Lf.nil _ _
        · refine z2.mono (fun x _ hK => ⟨e4 x (live_k hK), fun e => ?_⟩)
          unfold live at e3
          have h2 := (List.nodup_append.1 (List.nodup_cons.1 e3).2).2.2
          exact h2 f1.g (by simp [opn, Fq.sl, ko, show f1.c ≠ 0 by omega, blk]) x hK e.symm
      obtain ⟨gg, hgg1, hgg2⟩ : ∃ gg, ko gg k.len = ko f1.g k.len ∧ B.heap.size ≤ gg ∧ (gg = f1.g ∨ k.len = 0) := by
        rcases Nat.eq_zero_or_pos k.len with h0 | h0
        · exact ⟨B.heap.size, by simp [ko, h0], Nat.le_refl _, Or.inr h0⟩
        · exact ⟨f1.g, rfl, e4 _ (live_opn (by simp [opn, Fq.sl, ko, show f1.c ≠ 0 by omega, blk])), Or.inl rfl⟩
      rw [← hgg1] at z1 t5
      have LF2 : Lf (fun z => B.heap.size ≤ z ∧ z ≠ gg) wr k zs := by
        rcases hgg2.2 with e | e
        · rw [e]; exact LF
        · have : k = .nil := Fo.len_zero.1 e
          subst this
          have := Lf.nil_iff.1 LF
          rw [this]; exact Lf.nil _ _
      have hgge := hgg2.1
      have A2w := A2.kept L.kp (by simp)
      obtain ⟨x0, x1, x2, x3, x4, x5⟩ := A2w.six
      have fr := fun j => A2w.free j
      have D : Hid _ := (A2w.putZ (.int .i64 l.kind) (.int .i64 l.ns) (.string l.name) (.slice none 0 0) (.string l.text) (.slice (ko gg k.len) k.len k.len)).six
      have kz : Kp [s0 + 1] wr (putZ wr (s0 + 1) (.int .i64 l.kind) (.int .i64 l.ns) (.string l.name) (.slice none 0 0) (.string l.text) (.slice (ko gg k.len) k.len k.len)) := (Kp.refl _ _).putZ (g := s0 + 1) (Or.inl (by simp)) _ _ _ _ _ _
      have KZ : Hid (Kp [] w (putZ wr (s0 + 1) (.int .i64 l.kind) (.int .i64 l.ns) (.string l.name) (.slice none 0 0) (.string l.text) (.slice (ko gg k.len) k.len k.len))) := (KB.out.trans L.kp (fun z hz => by simp at hz)).trans kz (fun z hz => Or.inr (by simp at hz; have := HS.out; omega))
      have hso := HS.out
      have NZ : Hid (OwnK 6 (putZ wr (s0 + 1) (.int .i64 l.kind) (.int .i64 l.ns) (.string l.name) (.slice none 0 0) (.string l.text) (.slice (ko gg k.len) k.len k.len)) 25 (.slice (ko gg k.len) k.len k.len) k.len zs ∧ Lf (fun z => w.heap.size ≤ z ∧ z ≠ gg) (putZ wr (s0 + 1) (.int .i64 l.kind) (.int .i64 l.ns) (.string l.name) (.slice none 0 0) (.string l.text) (.slice (ko gg k.len) k.len k.len)) k zs ∧ w.heap.size ≤ gg) := ⟨z1.keep kz (fun x hx => by rw [blk_ko x hx]; simp; omega), (LF2.keep (kz.sms (fun z hz => by simp; omega))).mono (fun z _ hz => ⟨by omega, hz.2⟩), by omega⟩
      unfold putZ at D KZ NZ
      clear Q L ht hw e3 e4 e7 e8 b1 b2 b4 T0 c4 c5 z1 z2 LF LF2 key kz A2w hs hbg hgg1 hgg2 hgge
      go_wp2
      obtain ⟨d0, d1, d2, d3, d4, d5⟩ := D.out
      obtain ⟨n1, n2, n3⟩ := NZ.out
      rw [HS.out] at n2 n3
      exact bodyPost_ret (v := .agg #[.int .i64 l.kind, .int .i64 l.ns, .string l.name, .slice none 0 0, .string l.text, .slice (ko gg k.len) k.len k.len]) (by simp [results, go_sem, d0, d1, d2, d3, d4, d5]) rfl ⟨gg, rfl, zs, n1, n2, n3, KZ.out⟩
    | cons u S =>
      obtain ⟨b, off, rfl, rfl, rfl, T⟩ := C
      simp only [List.tail_cons] at L
      obtain ⟨⟨ub1, ub2, ub3⟩, hu1⟩ := hbare u (by simp)
      have HBR : Hid (∀ u, u ∈ S → bareL u.2.1 ∧ u.1 ≤ 20001) := fun u hu => hbare u (by simp [hu])
      clear hbare
      have HP0 : Hid (RPop B s P A l k p v u S b off wr r.length) := ⟨pv, f, r, Kd, L, T, Q, ht, hw, hbot, rfl, hrl, hbg⟩
      clear L T Q ht hw hbot hrl hbg
      obtain ⟨ν, hν⟩ := least_of (RPop B s P A l k p v u S b off)
      obtain ⟨wr0, rfl⟩ : ∃ x, x = wr := ⟨_, rfl⟩
      go_wp2_with fail
      go_loopw [31] (fun x31 wr => ∃ n, RPop B s P A l k p v u S b off wr n) (fun x31 wr => ν wr)
      case atStart => exact ⟨_, HP0.out⟩
      case round =>
        clear HP0
        obtain ⟨n0, hrel⟩ := hrel
        obtain ⟨pv, f, r, Kd, L, T, Q, ht, hw, hbot, hrn, hrl, hbg⟩ := (hν _ _ hrel).1
        have HN : Hid (∀ a n, RPop B s P A l k p v u S b off a n → ν a ≤ n) := fun a n hn => (hν a n hn).2
        have HR2 : Hid (r.length = ν wr) := hrn
        clear hrel hν hrn
        have hdeep := (tC_deep ht).1
        have HLN := pt_len wr P pv (r.length + 1) _ Q.pile
        by_cases hgt : u.1 < r.length
        · obtain ⟨g, r', rfl⟩ : ∃ g r', r = g :: r' := by
            cases r with
            | nil => simp at hgt
            | cons g r' => exact ⟨g, r', rfl⟩
          have HPO := pt_pop wr P pv (r'.length + 1) (ptC g r') ⟨f.b, f.off, none⟩ Q.pile (by simp at hrl; omega)
          simp only [List.length_cons] at hgt hrl hdeep HLN HR2
          have HNX : Hid (∀ w' pv', Pk 1 w' 85 52 P pv' (r'.length + 1) (ptC g r') → Kp (P :: blk pv) wr w' → (∀ x, x ∈ blk pv' → x ∈ blk pv ∨ wr.heap.size ≤ x) → RPop B s P A l k p v u S b off w' r'.length) := fun w' pv' a1 a2 a3 => RPop.pop L T Q ht hw hbot hgt (by omega) hbg a1 a2 a3
          have jg : decide ((r'.length : Int) + 1 + 1 > (u.1 : Int) + 1) = true := decide_eq_true (by omega)
          clear L T Q ht hw hbot hdeep hbg
          generalize r'.length = rl at hgt hrl HLN HR2 HPO HNX jg
          go_wp2_with (first
            | (go_at_call 34; refine HLN.mono ?_; rintro e w2 ⟨rfl, hw2⟩; have hw3 := hw2.symm; clear hw2; subst hw3)
            | (go_at_call 35; refine HPO.mono ?_; rintro e w3 ⟨rfl, pv3, a1, a2, a3⟩))
          go_roundw
          case rel => exact ⟨_, HNX.out _ _ a1 a2 a3⟩
          case measure =>
            refine Nat.lt_of_le_of_lt (HN.out _ _ (HNX.out _ _ a1 a2 a3)) ?_
            rw [← HR2.out]; omega
        · have hrl2 : r.length = u.1 := by omega
          clear HN HR2 hgt hdeep
          obtain ⟨rs, hrest, HT2⟩ := tC_top ht hrl2.symm
          obtain ⟨pn, hcl, hnd, hbo⟩ := T
          have hpl := hnd.klen
          have hpa := hnd.alen
          rw [ub1, List.length_nil] at hpa
          have hcnd : u.2.2.len ≤ 100000 := by
            have h1 := Fo.len_le_cnt u.2.2
            obtain ⟨fs, hk2, _⟩ := L
            have h2 := hk2.b.few
            have h3 : u.2.2.cnt < (Fo.cons l k .nil).cnt := by
              rw [← hw]
              exact whole_cnt hrest
            rw [Fo.cnt_cons, Fo.cnt_nil] at h3
            omega
          have HOW : Hid (∀ W, Kp [] wr W → Calls Try.prog 37 #[.pointer (some ⟨b, off, none⟩)] W fun e w' => ∃ g, e = .returned (.agg #[.int .i64 u.2.1.kind, .int .i64 u.2.1.ns, .string u.2.1.name, .slice none 0 0, .string u.2.1.text, .slice (ko g u.2.2.len) 0 u.2.2.len]) ∧ Kp [] W w' ∧ OwnK 6 w' 25 (.slice (ko g u.2.2.len) 0 u.2.2.len) 0 [] ∧ ∀ x, x ∈ blk (.slice (ko g u.2.2.len) 0 u.2.2.len) → W.heap.size ≤ x) := fun W kW => by
            have := own_node W b off u.2.1 pn (hcl.keep kW (by simp)) hpa (by omega) ub2 ub3
            rwa [hpl] at this
          have hfc : f.n + f.rest.len = f.c := by obtain ⟨zs, _, _, h3⟩ := Q.lq; exact h3
          rw [hrest, Fo.len_cons] at hfc
          have hfn : f.n < f.c := by omega
          have hko : ko f.g f.c = some ⟨f.g, 0, none⟩ := by unfold ko; rw [if_neg (by omega)]
          have hmx : f.c ≤ maxLen := by
            obtain ⟨zs, z1, _, _⟩ := Q.lq
            obtain ⟨_, _, _, a2, _⟩ := OwnK.cells z1 (by omega)
            exact a2
          have hmx2 : f.c ≤ 9223372036854775807 := by unfold maxLen at hmx; omega
          obtain ⟨xs, hxs⟩ := ptC_top f r
          have HTP := pt_top wr P pv r.length xs ⟨f.b, f.off, none⟩ (by rw [← hxs]; exact Q.pile) (by omega)
          obtain ⟨q1, q2, q3, q4, q5, q6, q7, q8, q9⟩ := Q.apart (by omega)
          have HQ : Hid (Cq B wr P pv (s.at v).own f r Kd) := Q
          have HL : Hid (Wl B wr (s.at v) S l k p) := L
          have HWH : Hid (whole f r f.done = .cons l k .nil) := hw
          have HBGN : Hid (Begun l k r (u :: S)) := hbg
          clear hbg
          have HAP : Hid (∀ x, x ∈ [f.g, f.b] → B.heap.size ≤ x ∧ x ∉ P :: blk pv ∧ x ∉ (s.at v).own) := fun x hx => by
            simp only [List.mem_cons, List.not_mem_nil, or_false] at hx
            rcases hx with rfl | rfl
            · exact ⟨(Q.new _ q2).1, (Q.ap _ q2).1, (Q.ap _ q2).2⟩
            · exact ⟨(Q.new _ q1).1, (Q.ap _ q1).1, (Q.ap _ q1).2⟩
          have HC0 : Hid (∀ W, Kp [] wr W → W.cell? ⟨f.b, f.off + 5, none⟩ = some (.slice (some ⟨f.g, 0, none⟩) f.n f.c)) := fun W kW => by
            have h1 := ((Q.kept kW).un.cell).1
            unfold Fq.sl at h1
            rwa [hko] at h1
          have jg : decide ((r.length : Int) + 1 > (u.1 : Int) + 1) = false := decide_eq_false (by omega)
          have HFB : Hid (f.b ∈ live f r Kd) := q1
          have HGN : Hid (f.g ∈ live f r Kd) := q2
          clear L Q ht hw hcl hnd hbo hpl hpa q1 q2 q3 q4 q5 q6 q7 q8 q9 hxs hfc hmx hcnd
          have hrb : r.length < 100000 := by omega
          have hgn : ¬ u.1 < r.length := by omega
          generalize hrle : r.length = rl at HLN HTP jg hgn
          clear hrle
          go_upto_region 11 with (first
            | (go_at_call 34; refine HLN.mono ?_; rintro e w2 ⟨rfl, hw2⟩; have hw3 := hw2.symm; clear hw2; subst hw3)
            | (go_at_call 36; refine HTP.mono ?_; rintro e w2 ⟨rfl, hw2⟩; have hw3 := hw2.symm; clear hw2; subst hw3))
          clear HLN HTP jg
          go_cut [9] from 24 to 67 (fun x9 wc => x9 = .pointer (some ⟨f.b, f.off, none⟩) ∧ ∃ g2 w2, Kp [] wr w2 ∧ OwnK 6 w2 25 (.slice (ko g2 u.2.2.len) 0 u.2.2.len) 0 [] ∧ (∀ x, x ∈ blk (.slice (ko g2 u.2.2.len) 0 u.2.2.len) → wr.heap.size ≤ x) ∧ (∀ zs, OwnK 6 w2 25 (.slice (ko f.g f.c) f.n f.c) f.n zs → OwnK 6 wc 25 (.slice (ko f.g f.c) (f.n + 1) f.c) (f.n + 1) (zs ++ six u.2.1 ((none, 0, 0), (ko g2 u.2.2.len, 0, u.2.2.len)))) ∧ Un (· ∈ Kd) wc { f with n := f.n + 1, done := f.done, rest := rs } r ∧ Kp [f.g, f.b] w2 wc)
          case first =>
            have j1 : (0 : Int) ≤ (f.n : Int) := by omega
            have j2 : (f.n : Int) < (f.n : Int) + 1 := by omega
            obtain ⟨U0, hU0⟩ : ∃ V, V = wr.drew := ⟨_, rfl⟩
            have k0 : Kp [] wr U0 := by rw [hU0]; exact (Kp.refl _ _).drew
            refine wp_region_g (S := fun V => V.cell? ⟨f.b, f.off + 5, none⟩ = some (.slice (some ⟨f.g, 0, none⟩) f.n f.c)) (T := [8, 9, 10, 11, 12, 13]) (by kernel_rfl) (HC0.out _ (Kp.refl [] wr).drew) (fun hHeld => ?_)
            rw [← hU0] at hHeld ⊢
            clear hU0
            refine wpAnyG_pure (i := 0) (oi := { dst := some 43, op := Go.Op.move (Go.Operand.tmp 9), type := 52, pos := "tree.go:78", after := #[], guard := none }) (v := ?_) rfl (by kernel_rfl) (by kernel_rfl) (by kernel_rfl) (by kernel_rfl) (fun _ _ _ h => h) (Or.inl ⟨by rfl, ?_⟩) (by assumption) ?_
            rotate_left
            · (intro w; go_simp; try with_reducible rfl)
            simp only [Act.put, List.setIfInBounds_toArray, List.set_cons_zero, List.set_cons_succ]
            refine wpAnyG_pure (i := 1) (oi := { dst := some 44, op := Go.Op.nilCheck (Go.Operand.tmp 43), type := 0, pos := "tree.go:78", after := #[{ on := 0, ground := Go.Ground.data }], guard := none }) (v := ?_) rfl (by kernel_rfl) (by kernel_rfl) (by kernel_rfl) (by kernel_rfl) (fun _ _ _ h => h) (Or.inl ⟨by rfl, ?_⟩) (by assumption) ?_
            rotate_left
            · (intro w; go_simp; try with_reducible rfl)
            simp only [Act.put, List.setIfInBounds_toArray, List.set_cons_zero, List.set_cons_succ]
            refine wpAnyG_pure (i := 2) (oi := { dst := some 45, op := Go.Op.fieldAddr 25 (Go.Operand.tmp 44) 5, type := 0, pos := "tree.go:78", after := #[{ on := 1, ground := Go.Ground.data }], guard := none }) (v := ?_) rfl (by kernel_rfl) (by kernel_rfl) (by kernel_rfl) (by kernel_rfl) (fun _ _ _ h => h) (Or.inl ⟨by rfl, ?_⟩) (by assumption) ?_
            rotate_left
            · (intro w; go_simp; try with_reducible rfl)
            simp only [Act.put, List.setIfInBounds_toArray, List.set_cons_zero, List.set_cons_succ]
            refine wpAnyG_take (i := 3) (oi := { dst := some 46, op := Go.Op.load 23 (Go.Operand.tmp 45), type := 23, pos := "tree.go:78", after := #[{ on := 2, ground := Go.Ground.data }], guard := none }) (v := ?_) rfl (by kernel_rfl) (by kernel_rfl) (by kernel_rfl) (by kernel_rfl) (fun _ _ _ h => h) (Or.inl ⟨by rfl, ?_⟩) (by assumption) ?_
            rotate_left
            · (intro w hSw; (try dsimp only at hSw); go_simp; try with_reducible rfl)
            simp only [Act.put, List.setIfInBounds_toArray, List.set_cons_zero, List.set_cons_succ]
            refine wpAnyG_pure (i := 4) (oi := { dst := some 47, op := Go.Op.move (Go.Operand.tmp 6), type := 52, pos := "tree.go:78", after := #[], guard := none }) (v := ?_) rfl (by kernel_rfl) (by kernel_rfl) (by kernel_rfl) (by kernel_rfl) (fun _ _ _ h => h) (Or.inl ⟨by rfl, ?_⟩) (by assumption) ?_
            rotate_left
            · (intro w; go_simp; try with_reducible rfl)
            simp only [Act.put, List.setIfInBounds_toArray, List.set_cons_zero, List.set_cons_succ]
            refine wpAnyG_pure (i := 6) (oi := { dst := some 49, op := Go.Op.call { callee := Go.Callee.builtin Go.Builtin.len, args := #[Go.Operand.tmp 46], argTypes := #[23] }, type := 3, pos := "tree.go:78", after := #[{ on := 3, ground := Go.Ground.data }], guard := none }) (v := ?_) rfl (by kernel_rfl) (by kernel_rfl) (by kernel_rfl) (by kernel_rfl) (fun _ _ _ h => h) (Or.inl ⟨by rfl, ?_⟩) (by assumption) ?_
            rotate_left
            · (intro w; go_simp; try with_reducible rfl)
            simp only [Act.put, List.setIfInBounds_toArray, List.set_cons_zero, List.set_cons_succ]
            refine wpAnyG_ready (rs := [5, 7]) (by kernel_rfl) (by simp) ?_
            refine AllReadyG.cons (o := { dst := some 48, op := Go.Op.call { callee := Go.Callee.value (Go.Operand.func 37), args := #[Go.Operand.tmp 47], argTypes := #[52] }, type := 25, pos := "tree.go:78", after := #[{ on := 4, ground := Go.Ground.data }], guard := none }) rfl (fun K hK => ?_) ?_
            · go_simp
              go_at_call 37
              refine (HOW.out _ k0).mono ?_
              rintro e U1 ⟨g2, rfl, u1, OW, NW⟩
              go_wp2_with fail
              have k1 : Kp [] wr U1 := k0.trans u1 (fun z hz => by simp at hz)
              have nz := k0.size
              have NW : ∀ x, x ∈ blk (.slice (ko g2 u.2.2.len) 0 u.2.2.len) → wr.heap.size ≤ x := fun x hx => by have := NW x hx; omega
              refine hK.out _ _ (HC0.out _ k1) (fun hHeld1 => ?_)
              clear hK K hHeld
              try simp only [Act.put, List.setIfInBounds_toArray, List.set_cons_zero, List.set_cons_succ]
              refine wpAnyG_ready (rs := [7]) (by kernel_rfl) (by simp) ?_
              refine AllReadyG.cons (o := { dst := some 50, op := Go.Op.buildSlice 23 1 #[(0, Go.Operand.const (Go.Value.agg #[Go.Value.int Go.IntKind.i64 0, Go.Value.int Go.IntKind.i64 0, Go.Value.string { data := #[] }, Go.Value.slice none 0 0, Go.Value.string { data := #[] }, Go.Value.slice none 0 0]))], type := 23, pos := "tree.go:78", after := #[], guard := none }) rfl (fun K hK => ?_) AllReadyG.nil
              go_simp
              obtain ⟨U2, hU⟩ : ∃ V, V = World.alloc U1 (.cells #[.int .i64 0, .int .i64 0, .string ⟨#[]⟩, .slice none 0 0, .string ⟨#[]⟩, .slice none 0 0] 25) := ⟨_, rfl⟩
              rw [← hU]
              have u2 : Kp [] U1 U2 := by rw [hU]; exact (Kp.refl _ _).alloc _
              have k2 : Kp [] wr U2 := k1.trans u2 (fun z hz => by simp at hz)
              have TZ : At U2 U1.heap.size #[.int .i64 0, .int .i64 0, .string ⟨#[]⟩, .slice none 0 0, .string ⟨#[]⟩, .slice none 0 0] 25 := by rw [hU]; exact At.new _ _ _
              obtain ⟨gz, hgz⟩ : ∃ g, U1.heap.size = g := ⟨_, rfl⟩
              rw [hgz] at TZ ⊢
              clear hU hgz
              have OW := OW.keep u2 (fun _ _ => by simp)
              refine hK.out _ _ (HC0.out _ k2) (fun hHeld2 => ?_)
              clear hK K hHeld1
              try simp only [Act.put, List.setIfInBounds_toArray, List.set_cons_zero, List.set_cons_succ]
              refine wpAnyG_free (by kernel_rfl) ?_
              refine wpAny_ready (rs := [8]) (by kernel_rfl) (by simp) ?_
              refine AllReady.cons (o := { dst := some 51, op := Go.Op.call { callee := Go.Callee.builtin Go.Builtin.append, args := #[Go.Operand.tmp 46, Go.Operand.tmp 50], argTypes := #[23, 23] }, type := 23, pos := "tree.go:78", after := #[{ on := 3, ground := Go.Ground.data }, { on := 7, ground := Go.Ground.data }, { on := 5, ground := Go.Ground.chain }, { on := 0, ground := Go.Ground.phase }, { on := 1, ground := Go.Ground.phase }, { on := 2, ground := Go.Ground.phase }, { on := 3, ground := Go.Ground.phase }, { on := 4, ground := Go.Ground.phase }, { on := 5, ground := Go.Ground.phase }, { on := 6, ground := Go.Ground.phase }, { on := 7, ground := Go.Ground.phase }], guard := none }) rfl (fun K hK => ?_) AllReady.nil
              have CU := HQ.out.kept k2
              obtain ⟨zs, z1, _, _⟩ := CU.lq
              rw [List.append_nil] at z1
              unfold Fq.sl at z1
              refine step_appR (by rfl) _ _ 23 (by rfl) _ _ (by rfl) (by rfl) (room_run z1 hfn TZ [Value.int .i64 0, .int .i64 0, .string ⟨#[]⟩, .slice none 0 0, .string ⟨#[]⟩, .slice none 0 0] rfl rfl (fun u hu => by simp only [List.mem_cons, List.not_mem_nil, or_false] at hu; rcases hu with rfl | rfl | rfl | rfl | rfl | rfl <;> rfl)) ?_
              have z2 := z1.room (ys := [Value.int .i64 0, .int .i64 0, .string ⟨#[]⟩, .slice none 0 0, .string ⟨#[]⟩, .slice none 0 0]) hfn rfl
              have F5 : Hid _ := CU.five hfn (six u.2.1 ((none, 0, 0), (ko g2 u.2.2.len, 0, u.2.2.len))) rfl [Value.int .i64 0, .int .i64 0, .string ⟨#[]⟩, .slice none 0 0, .string ⟨#[]⟩, .slice none 0 0] rfl rs
              have UX : Un (· ∈ Kd) (U2.setCells f.g (f.n * 6) [Value.int .i64 0, .int .i64 0, .string ⟨#[]⟩, .slice none 0 0, .string ⟨#[]⟩, .slice none 0 0]) f r := CU.un.keep (Kp.setCells f.g (Or.inl (by simp)) _ _ _ (Kp.refl [f.g] _)) ((Kp.setCells f.g (Or.inl (by simp)) _ _ _ (Kp.refl [f.g] _)).sms (fun x hx => by simp; intro e; subst e; exact (CU.apart (by omega)).2.2.2.2.1 hx)) (fun x hx => by simp; intro e; subst e; exact (CU.apart (by omega)).2.2.2.2.2.1 hx) (by simp; exact (CU.apart (by omega)).2.2.2.2.2.2.1)
              have hbg := (CU.apart (by omega)).2.2.1
              have cX := UX.cell
              unfold Fq.sl at cX
              rw [hko] at cX
              obtain ⟨cX1, cX2⟩ := cX
              obtain ⟨⟨l0, l1, l2, l3, l4, l5⟩, lf⟩ := last_cells z2 hfn
              obtain ⟨X, hX⟩ : ∃ X, X = U2.setCells f.g (f.n * 6) [Value.int .i64 0, .int .i64 0, .string ⟨#[]⟩, .slice none 0 0, .string ⟨#[]⟩, .slice none 0 0] := ⟨_, rfl⟩
              rw [← hX] at cX1 cX2 l0 l1 l2 l3 l4 l5 lf F5 ⊢
              clear hX UX z1 z2 CU
              refine hK _ _ ?_
              clear hK K
              try simp only [Act.put, List.setIfInBounds_toArray, List.set_cons_zero, List.set_cons_succ]
              refine wpAny_take (i := 9) (oi := { dst := some 52, op := Go.Op.indexAddr 23 (Go.Operand.tmp 51) (Go.Operand.tmp 49), type := 0, pos := "tree.go:78", after := #[{ on := 8, ground := Go.Ground.data }, { on := 6, ground := Go.Ground.data }, { on := 0, ground := Go.Ground.phase }, { on := 1, ground := Go.Ground.phase }, { on := 2, ground := Go.Ground.phase }, { on := 3, ground := Go.Ground.phase }, { on := 4, ground := Go.Ground.phase }, { on := 5, ground := Go.Ground.phase }, { on := 6, ground := Go.Ground.phase }, { on := 7, ground := Go.Ground.phase }, { on := 8, ground := Go.Ground.phase }, { on := 13, ground := Go.Ground.gcOnly Go.Departure.appendInPlace }], guard := none }) (v := ?_) rfl (by kernel_rfl) (by kernel_rfl) (by kernel_rfl) (fun _ _ _ h => h) (Or.inl ⟨by rfl, ?_⟩) ?_
              rotate_left
              · (intro w; go_simp; try with_reducible rfl)
              simp only [Act.put, List.setIfInBounds_toArray, List.set_cons_zero, List.set_cons_succ]
              refine wpAny_take (i := 11) (oi := { dst := some 53, op := Go.Op.nilCheck (Go.Operand.tmp 43), type := 0, pos := "tree.go:78", after := #[{ on := 0, ground := Go.Ground.data }, { on := 0, ground := Go.Ground.phase }, { on := 1, ground := Go.Ground.phase }, { on := 2, ground := Go.Ground.phase }, { on := 3, ground := Go.Ground.phase }, { on := 4, ground := Go.Ground.phase }, { on := 5, ground := Go.Ground.phase }, { on := 6, ground := Go.Ground.phase }, { on := 7, ground := Go.Ground.phase }, { on := 8, ground := Go.Ground.phase }, { on := 9, ground := Go.Ground.textOnly Go.Departure.appendInPlace }, { on := 10, ground := Go.Ground.textOnly Go.Departure.appendInPlace }], guard := none }) (v := ?_) rfl (by kernel_rfl) (by kernel_rfl) (by kernel_rfl) (fun _ _ _ h => h) (Or.inl ⟨by rfl, ?_⟩) ?_
              rotate_left
              · (intro w; go_simp; try with_reducible rfl)
              simp only [Act.put, List.setIfInBounds_toArray, List.set_cons_zero, List.set_cons_succ]
              refine wpAny_take (i := 12) (oi := { dst := some 54, op := Go.Op.fieldAddr 25 (Go.Operand.tmp 53) 5, type := 0, pos := "tree.go:78", after := #[{ on := 11, ground := Go.Ground.data }, { on := 0, ground := Go.Ground.phase }, { on := 1, ground := Go.Ground.phase }, { on := 2, ground := Go.Ground.phase }, { on := 3, ground := Go.Ground.phase }, { on := 4, ground := Go.Ground.phase }, { on := 5, ground := Go.Ground.phase }, { on := 6, ground := Go.Ground.phase }, { on := 7, ground := Go.Ground.phase }, { on := 8, ground := Go.Ground.phase }, { on := 9, ground := Go.Ground.textOnly Go.Departure.appendInPlace }, { on := 10, ground := Go.Ground.textOnly Go.Departure.appendInPlace }], guard := none }) (v := ?_) rfl (by kernel_rfl) (by kernel_rfl) (by kernel_rfl) (fun _ _ _ h => h) (Or.inl ⟨by rfl, ?_⟩) ?_
              rotate_left
              · (intro w; go_simp; try with_reducible rfl)
              simp only [Act.put, List.setIfInBounds_toArray, List.set_cons_zero, List.set_cons_succ]
              refine wpAny_ready (rs := [10, 13]) (by kernel_rfl) (by simp) ?_
              refine AllReady.cons (o := { dst := none, op := Go.Op.store 25 (Go.Operand.tmp 52) (Go.Operand.tmp 48), type := 0, pos := "tree.go:78", after := #[{ on := 9, ground := Go.Ground.data }, { on := 5, ground := Go.Ground.data }, { on := 8, ground := Go.Ground.chain }, { on := 0, ground := Go.Ground.phase }, { on := 1, ground := Go.Ground.phase }, { on := 2, ground := Go.Ground.phase }, { on := 3, ground := Go.Ground.phase }, { on := 4, ground := Go.Ground.phase }, { on := 5, ground := Go.Ground.phase }, { on := 6, ground := Go.Ground.phase }, { on := 7, ground := Go.Ground.phase }, { on := 8, ground := Go.Ground.phase }, { on := 13, ground := Go.Ground.gcOnly Go.Departure.appendInPlace }], guard := none }) rfl (fun K hK => ?_) ?_
              · go_simp
                clear l0 l1 l2 l3 l4 l5 lf
                obtain ⟨Y, hY⟩ : ∃ Y, Y = put6 X f.g (f.n * 6) (.int .i64 u.2.1.kind) (.int .i64 u.2.1.ns) (.string u.2.1.name) (.slice none 0 0) (.string u.2.1.text) (.slice (ko g2 u.2.2.len) 0 u.2.2.len) := ⟨_, rfl⟩
                have hYu := hY
                unfold put6 at hYu
                rw [← hYu]
                clear hYu
                have F5a := F5.out.1
                rw [put6_eq] at hY
                have HY : Hid (Y = World.setCells X f.g (f.n * 6) (six u.2.1 ((none, 0, 0), (ko g2 u.2.2.len, 0, u.2.2.len)))) := hY
                have kg : Kp [f.g] X Y := by rw [hY]; exact Kp.setCells f.g (Or.inl (by simp)) _ _ _ (Kp.refl _ _)
                have cX2 := (kg.frozen (a := ⟨f.b, f.off + 5, none⟩) (block_lt_of_cell cX1) (by simp; exact hbg)).trans cX2
                have cX1 := (kg.cell (a := ⟨f.b, f.off + 5, none⟩) (block_lt_of_cell cX1) (by simp; exact hbg)).trans cX1
                clear hY kg
                refine hK _ _ ?_
                clear hK K
                try simp only [Act.put, List.setIfInBounds_toArray, List.set_cons_zero, List.set_cons_succ]
                refine wpAny_ready (rs := [13]) (by kernel_rfl) (by simp) ?_
                refine AllReady.cons (o := { dst := none, op := Go.Op.store 23 (Go.Operand.tmp 54) (Go.Operand.tmp 51), type := 0, pos := "tree.go:78", after := #[{ on := 12, ground := Go.Ground.data }, { on := 8, ground := Go.Ground.data }, { on := 8, ground := Go.Ground.chain }, { on := 10, ground := Go.Ground.textOnly Go.Departure.appendInPlace }, { on := 0, ground := Go.Ground.phase }, { on := 1, ground := Go.Ground.phase }, { on := 2, ground := Go.Ground.phase }, { on := 3, ground := Go.Ground.phase }, { on := 4, ground := Go.Ground.phase }, { on := 5, ground := Go.Ground.phase }, { on := 6, ground := Go.Ground.phase }, { on := 7, ground := Go.Ground.phase }, { on := 8, ground := Go.Ground.phase }, { on := 9, ground := Go.Ground.textOnly Go.Departure.appendInPlace }, { on := 10, ground := Go.Ground.textOnly Go.Departure.appendInPlace }], guard := none }) rfl (fun K hK => ?_) AllReady.nil
                go_simp
                refine hK _ _ ?_
                clear hK K
                try simp only [Act.put, List.setIfInBounds_toArray, List.set_cons_zero, List.set_cons_succ]
                refine wpAny_done (by kernel_rfl) ?_ _
                have F5b := F5a
                rw [← HY.out] at F5b
                rw [hko] at F5b
                obtain ⟨a1, a2, a3⟩ := F5b
                go_wp2_with fail
                go_meet
                case rel => exact ⟨rfl, g2, U2, k2, OW, NW, fun zs hz => by rw [hko] at hz ⊢; exact a1 zs hz, a2, a3⟩
              refine AllReady.cons (o := { dst := none, op := Go.Op.store 23 (Go.Operand.tmp 54) (Go.Operand.tmp 51), type := 0, pos := "tree.go:78", after := #[{ on := 12, ground := Go.Ground.data }, { on := 8, ground := Go.Ground.data }, { on := 8, ground := Go.Ground.chain }, { on := 10, ground := Go.Ground.textOnly Go.Departure.appendInPlace }, { on := 0, ground := Go.Ground.phase }, { on := 1, ground := Go.Ground.phase }, { on := 2, ground := Go.Ground.phase }, { on := 3, ground := Go.Ground.phase }, { on := 4, ground := Go.Ground.phase }, { on := 5, ground := Go.Ground.phase }, { on := 6, ground := Go.Ground.phase }, { on := 7, ground := Go.Ground.phase }, { on := 8, ground := Go.Ground.phase }, { on := 9, ground := Go.Ground.textOnly Go.Departure.appendInPlace }, { on := 10, ground := Go.Ground.textOnly Go.Departure.appendInPlace }], guard := none }) rfl (fun K hK => ?_) AllReady.nil
              go_simp
              clear cX1 cX2
              obtain ⟨Y, hY⟩ : ∃ Y, Y = World.setCell X ⟨f.b, f.off + 5, none⟩ (.slice (some ⟨f.g, 0, none⟩) (f.n + 1) f.c) := ⟨_, rfl⟩
              rw [← hY]
              have HY : Hid (Y = World.setCell X ⟨f.b, f.off + 5, none⟩ (.slice (ko f.g f.c) (f.n + 1) f.c)) := by show Y = _; rw [hko]; exact hY
              refine hK _ _ ?_
              clear hK K
              try simp only [Act.put, List.setIfInBounds_toArray, List.set_cons_zero, List.set_cons_succ]
              refine wpAny_ready (rs := [10]) (by kernel_rfl) (by simp) ?_
              refine AllReady.cons (o := { dst := none, op := Go.Op.store 25 (Go.Operand.tmp 52) (Go.Operand.tmp 48), type := 0, pos := "tree.go:78", after := #[{ on := 9, ground := Go.Ground.data }, { on := 5, ground := Go.Ground.data }, { on := 8, ground := Go.Ground.chain }, { on := 0, ground := Go.Ground.phase }, { on := 1, ground := Go.Ground.phase }, { on := 2, ground := Go.Ground.phase }, { on := 3, ground := Go.Ground.phase }, { on := 4, ground := Go.Ground.phase }, { on := 5, ground := Go.Ground.phase }, { on := 6, ground := Go.Ground.phase }, { on := 7, ground := Go.Ground.phase }, { on := 8, ground := Go.Ground.phase }, { on := 13, ground := Go.Ground.gcOnly Go.Departure.appendInPlace }], guard := none }) rfl (fun K hK => ?_) AllReady.nil
              have kf : Kp [f.b] X Y := by rw [hY]; exact (Kp.refl _ _).setCell (Or.inl (by simp)) _
              have hgX : f.g < X.heap.size := block_lt_of_cell l0
              have ll := fun (j : Nat) => kf.cell (a := ⟨f.g, j, none⟩) hgX (by simp; exact fun e => hbg e.symm)
              have lff := fun (j : Nat) => kf.frozen (a := ⟨f.g, j, none⟩) hgX (by simp; exact fun e => hbg e.symm)
              have m0 := (ll _).trans l0
              have m1 := (ll _).trans l1
              have m2 := (ll _).trans l2
              have m3 := (ll _).trans l3
              have m4 := (ll _).trans l4
              have m5 := (ll _).trans l5
              have mf := fun j => (lff j).trans (lf j)
              clear hY ll lff l0 l1 l2 l3 l4 l5 lf
              go_simp
              refine hK _ _ ?_
              clear hK K
              try simp only [Act.put, List.setIfInBounds_toArray, List.set_cons_zero, List.set_cons_succ]
              refine wpAny_done (by kernel_rfl) ?_ _
              obtain ⟨Z, hZ⟩ : ∃ Z, Z = put6 Y f.g (f.n * 6) (.int .i64 u.2.1.kind) (.int .i64 u.2.1.ns) (.string u.2.1.name) (.slice none 0 0) (.string u.2.1.text) (.slice (ko g2 u.2.2.len) 0 u.2.2.len) := ⟨_, rfl⟩
              have hZu := hZ
              unfold put6 at hZu
              rw [← hZu]
              clear hZu
              rw [put6_eq] at hZ
              have HZ : Hid (Z = World.setCells Y f.g (f.n * 6) (six u.2.1 ((none, 0, 0), (ko g2 u.2.2.len, 0, u.2.2.len)))) := hZ
              have F5b := F5.out.2
              rw [← HY.out, ← HZ.out] at F5b
              obtain ⟨a1, a2, a3⟩ := F5b
              clear hZ
              go_wp2_with fail
              go_meet
              case rel => exact ⟨rfl, g2, U2, k2, OW, NW, a1, a2, a3⟩
            refine AllReadyG.cons (o := { dst := some 50, op := Go.Op.buildSlice 23 1 #[(0, Go.Operand.const (Go.Value.agg #[Go.Value.int Go.IntKind.i64 0, Go.Value.int Go.IntKind.i64 0, Go.Value.string { data := #[] }, Go.Value.slice none 0 0, Go.Value.string { data := #[] }, Go.Value.slice none 0 0]))], type := 23, pos := "tree.go:78", after := #[], guard := none }) rfl (fun K hK => ?_) AllReadyG.nil
            go_simp
            obtain ⟨U1, hU⟩ : ∃ V, V = World.alloc U0 (.cells #[.int .i64 0, .int .i64 0, .string ⟨#[]⟩, .slice none 0 0, .string ⟨#[]⟩, .slice none 0 0] 25) := ⟨_, rfl⟩
            rw [← hU]
            have u1 : Kp [] U0 U1 := by rw [hU]; exact (Kp.refl _ _).alloc _
            have k1 : Kp [] wr U1 := k0.trans u1 (fun z hz => by simp at hz)
            have TZ : At U1 U0.heap.size #[.int .i64 0, .int .i64 0, .string ⟨#[]⟩, .slice none 0 0, .string ⟨#[]⟩, .slice none 0 0] 25 := by rw [hU]; exact At.new _ _ _
            obtain ⟨gz, hgz⟩ : ∃ g, U0.heap.size = g := ⟨_, rfl⟩
            rw [hgz] at TZ ⊢
            clear hU hgz
            refine hK.out _ _ (HC0.out _ k1) (fun hHeld1 => ?_)
            clear hK K hHeld
            try simp only [Act.put, List.setIfInBounds_toArray, List.set_cons_zero, List.set_cons_succ]
            refine wpAnyG_ready (rs := [5]) (by kernel_rfl) (by simp) ?_
            refine AllReadyG.cons (o := { dst := some 48, op := Go.Op.call { callee := Go.Callee.value (Go.Operand.func 37), args := #[Go.Operand.tmp 47], argTypes := #[52] }, type := 25, pos := "tree.go:78", after := #[{ on := 4, ground := Go.Ground.data }], guard := none }) rfl (fun K hK => ?_) AllReadyG.nil
            go_simp
            go_at_call 37
            refine (HOW.out _ k1).mono ?_
            rintro e U2 ⟨g2, rfl, u2, OW, NW⟩
            go_wp2_with fail
            have k2 : Kp [] wr U2 := k1.trans u2 (fun z hz => by simp at hz)
            have nz := k1.size
            have NW : ∀ x, x ∈ blk (.slice (ko g2 u.2.2.len) 0 u.2.2.len) → wr.heap.size ≤ x := fun x hx => by have := NW x hx; omega
            have TZ := TZ.kept u2 (by simp)
            refine hK.out _ _ (HC0.out _ k2) (fun hHeld2 => ?_)
            clear hK K hHeld1
            try simp only [Act.put, List.setIfInBounds_toArray, List.set_cons_zero, List.set_cons_succ]
            refine wpAnyG_free (by kernel_rfl) ?_
            refine wpAny_ready (rs := [8]) (by kernel_rfl) (by simp) ?_
            refine AllReady.cons (o := { dst := some 51, op := Go.Op.call { callee := Go.Callee.builtin Go.Builtin.append, args := #[Go.Operand.tmp 46, Go.Operand.tmp 50], argTypes := #[23, 23] }, type := 23, pos := "tree.go:78", after := #[{ on := 3, ground := Go.Ground.data }, { on := 7, ground := Go.Ground.data }, { on := 5, ground := Go.Ground.chain }, { on := 0, ground := Go.Ground.phase }, { on := 1, ground := Go.Ground.phase }, { on := 2, ground := Go.Ground.phase }, { on := 3, ground := Go.Ground.phase }, { on := 4, ground := Go.Ground.phase }, { on := 5, ground := Go.Ground.phase }, { on := 6, ground := Go.Ground.phase }, { on := 7, ground := Go.Ground.phase }], guard := none }) rfl (fun K hK => ?_) AllReady.nil
            have CU := HQ.out.kept k2
            obtain ⟨zs, z1, _, _⟩ := CU.lq
            rw [List.append_nil] at z1
            unfold Fq.sl at z1
            refine step_appR (by rfl) _ _ 23 (by rfl) _ _ (by rfl) (by rfl) (room_run z1 hfn TZ [Value.int .i64 0, .int .i64 0, .string ⟨#[]⟩, .slice none 0 0, .string ⟨#[]⟩, .slice none 0 0] rfl rfl (fun u hu => by simp only [List.mem_cons, List.not_mem_nil, or_false] at hu; rcases hu with rfl | rfl | rfl | rfl | rfl | rfl <;> rfl)) ?_
            have z2 := z1.room (ys := [Value.int .i64 0, .int .i64 0, .string ⟨#[]⟩, .slice none 0 0, .string ⟨#[]⟩, .slice none 0 0]) hfn rfl
            have F5 : Hid _ := CU.five hfn (six u.2.1 ((none, 0, 0), (ko g2 u.2.2.len, 0, u.2.2.len))) rfl [Value.int .i64 0, .int .i64 0, .string ⟨#[]⟩, .slice none 0 0, .string ⟨#[]⟩, .slice none 0 0] rfl rs
            have UX : Un (· ∈ Kd) (U2.setCells f.g (f.n * 6) [Value.int .i64 0, .int .i64 0, .string ⟨#[]⟩, .slice none 0 0, .string ⟨#[]⟩, .slice none 0 0]) f r := CU.un.keep (Kp.setCells f.g (Or.inl (by simp)) _ _ _ (Kp.refl [f.g] _)) ((Kp.setCells f.g (Or.inl (by simp)) _ _ _ (Kp.refl [f.g] _)).sms (fun x hx => by simp; intro e; subst e; exact (CU.apart (by omega)).2.2.2.2.1 hx)) (fun x hx => by simp; intro e; subst e; exact (CU.apart (by omega)).2.2.2.2.2.1 hx) (by simp; exact (CU.apart (by omega)).2.2.2.2.2.2.1)
            have hbg := (CU.apart (by omega)).2.2.1
            have cX := UX.cell
            unfold Fq.sl at cX
            rw [hko] at cX
            obtain ⟨cX1, cX2⟩ := cX
            obtain ⟨⟨l0, l1, l2, l3, l4, l5⟩, lf⟩ := last_cells z2 hfn
            obtain ⟨X, hX⟩ : ∃ X, X = U2.setCells f.g (f.n * 6) [Value.int .i64 0, .int .i64 0, .string ⟨#[]⟩, .slice none 0 0, .string ⟨#[]⟩, .slice none 0 0] := ⟨_, rfl⟩
            rw [← hX] at cX1 cX2 l0 l1 l2 l3 l4 l5 lf F5 ⊢
            clear hX UX z1 z2 CU
            refine hK _ _ ?_
            clear hK K
            try simp only [Act.put, List.setIfInBounds_toArray, List.set_cons_zero, List.set_cons_succ]
            refine wpAny_take (i := 9) (oi := { dst := some 52, op := Go.Op.indexAddr 23 (Go.Operand.tmp 51) (Go.Operand.tmp 49), type := 0, pos := "tree.go:78", after := #[{ on := 8, ground := Go.Ground.data }, { on := 6, ground := Go.Ground.data }, { on := 0, ground := Go.Ground.phase }, { on := 1, ground := Go.Ground.phase }, { on := 2, ground := Go.Ground.phase }, { on := 3, ground := Go.Ground.phase }, { on := 4, ground := Go.Ground.phase }, { on := 5, ground := Go.Ground.phase }, { on := 6, ground := Go.Ground.phase }, { on := 7, ground := Go.Ground.phase }, { on := 8, ground := Go.Ground.phase }, { on := 13, ground := Go.Ground.gcOnly Go.Departure.appendInPlace }], guard := none }) (v := ?_) rfl (by kernel_rfl) (by kernel_rfl) (by kernel_rfl) (fun _ _ _ h => h) (Or.inl ⟨by rfl, ?_⟩) ?_
            rotate_left
            · (intro w; go_simp; try with_reducible rfl)
            simp only [Act.put, List.setIfInBounds_toArray, List.set_cons_zero, List.set_cons_succ]
            refine wpAny_take (i := 11) (oi := { dst := some 53, op := Go.Op.nilCheck (Go.Operand.tmp 43), type := 0, pos := "tree.go:78", after := #[{ on := 0, ground := Go.Ground.data }, { on := 0, ground := Go.Ground.phase }, { on := 1, ground := Go.Ground.phase }, { on := 2, ground := Go.Ground.phase }, { on := 3, ground := Go.Ground.phase }, { on := 4, ground := Go.Ground.phase }, { on := 5, ground := Go.Ground.phase }, { on := 6, ground := Go.Ground.phase }, { on := 7, ground := Go.Ground.phase }, { on := 8, ground := Go.Ground.phase }, { on := 9, ground := Go.Ground.textOnly Go.Departure.appendInPlace }, { on := 10, ground := Go.Ground.textOnly Go.Departure.appendInPlace }], guard := none }) (v := ?_) rfl (by kernel_rfl) (by kernel_rfl) (by kernel_rfl) (fun _ _ _ h => h) (Or.inl ⟨by rfl, ?_⟩) ?_
            rotate_left
            · (intro w; go_simp; try with_reducible rfl)
            simp only [Act.put, List.setIfInBounds_toArray, List.set_cons_zero, List.set_cons_succ]
            refine wpAny_take (i := 12) (oi := { dst := some 54, op := Go.Op.fieldAddr 25 (Go.Operand.tmp 53) 5, type := 0, pos := "tree.go:78", after := #[{ on := 11, ground := Go.Ground.data }, { on := 0, ground := Go.Ground.phase }, { on := 1, ground := Go.Ground.phase }, { on := 2, ground := Go.Ground.phase }, { on := 3, ground := Go.Ground.phase }, { on := 4, ground := Go.Ground.phase }, { on := 5, ground := Go.Ground.phase }, { on := 6, ground := Go.Ground.phase }, { on := 7, ground := Go.Ground.phase }, { on := 8, ground := Go.Ground.phase }, { on := 9, ground := Go.Ground.textOnly Go.Departure.appendInPlace }, { on := 10, ground := Go.Ground.textOnly Go.Departure.appendInPlace }], guard := none }) (v := ?_) rfl (by kernel_rfl) (by kernel_rfl) (by kernel_rfl) (fun _ _ _ h => h) (Or.inl ⟨by rfl, ?_⟩) ?_
            rotate_left
            · (intro w; go_simp; try with_reducible rfl)
            simp only [Act.put, List.setIfInBounds_toArray, List.set_cons_zero, List.set_cons_succ]
            refine wpAny_ready (rs := [10, 13]) (by kernel_rfl) (by simp) ?_
            refine AllReady.cons (o := { dst := none, op := Go.Op.store 25 (Go.Operand.tmp 52) (Go.Operand.tmp 48), type := 0, pos := "tree.go:78", after := #[{ on := 9, ground := Go.Ground.data }, { on := 5, ground := Go.Ground.data }, { on := 8, ground := Go.Ground.chain }, { on := 0, ground := Go.Ground.phase }, { on := 1, ground := Go.Ground.phase }, { on := 2, ground := Go.Ground.phase }, { on := 3, ground := Go.Ground.phase }, { on := 4, ground := Go.Ground.phase }, { on := 5, ground := Go.Ground.phase }, { on := 6, ground := Go.Ground.phase }, { on := 7, ground := Go.Ground.phase }, { on := 8, ground := Go.Ground.phase }, { on := 13, ground := Go.Ground.gcOnly Go.Departure.appendInPlace }], guard := none }) rfl (fun K hK => ?_) ?_
            · go_simp
              clear l0 l1 l2 l3 l4 l5 lf
              obtain ⟨Y, hY⟩ : ∃ Y, Y = put6 X f.g (f.n * 6) (.int .i64 u.2.1.kind) (.int .i64 u.2.1.ns) (.string u.2.1.name) (.slice none 0 0) (.string u.2.1.text) (.slice (ko g2 u.2.2.len) 0 u.2.2.len) := ⟨_, rfl⟩
              have hYu := hY
              unfold put6 at hYu
              rw [← hYu]
              clear hYu
              have F5a := F5.out.1
              rw [put6_eq] at hY
              have HY : Hid (Y = World.setCells X f.g (f.n * 6) (six u.2.1 ((none, 0, 0), (ko g2 u.2.2.len, 0, u.2.2.len)))) := hY
              have kg : Kp [f.g] X Y := by rw [hY]; exact Kp.setCells f.g (Or.inl (by simp)) _ _ _ (Kp.refl _ _)
              have cX2 := (kg.frozen (a := ⟨f.b, f.off + 5, none⟩) (block_lt_of_cell cX1) (by simp; exact hbg)).trans cX2
              have cX1 := (kg.cell (a := ⟨f.b, f.off + 5, none⟩) (block_lt_of_cell cX1) (by simp; exact hbg)).trans cX1
              clear hY kg
              refine hK _ _ ?_
              clear hK K
              try simp only [Act.put, List.setIfInBounds_toArray, List.set_cons_zero, List.set_cons_succ]
              refine wpAny_ready (rs := [13]) (by kernel_rfl) (by simp) ?_
              refine AllReady.cons (o := { dst := none, op := Go.Op.store 23 (Go.Operand.tmp 54) (Go.Operand.tmp 51), type := 0, pos := "tree.go:78", after := #[{ on := 12, ground := Go.Ground.data }, { on := 8, ground := Go.Ground.data }, { on := 8, ground := Go.Ground.chain }, { on := 10, ground := Go.Ground.textOnly Go.Departure.appendInPlace }, { on := 0, ground := Go.Ground.phase }, { on := 1, ground := Go.Ground.phase }, { on := 2, ground := Go.Ground.phase }, { on := 3, ground := Go.Ground.phase }, { on := 4, ground := Go.Ground.phase }, { on := 5, ground := Go.Ground.phase }, { on := 6, ground := Go.Ground.phase }, { on := 7, ground := Go.Ground.phase }, { on := 8, ground := Go.Ground.phase }, { on := 9, ground := Go.Ground.textOnly Go.Departure.appendInPlace }, { on := 10, ground := Go.Ground.textOnly Go.Departure.appendInPlace }], guard := none }) rfl (fun K hK => ?_) AllReady.nil
              go_simp
              refine hK _ _ ?_
              clear hK K
              try simp only [Act.put, List.setIfInBounds_toArray, List.set_cons_zero, List.set_cons_succ]
              refine wpAny_done (by kernel_rfl) ?_ _
              have F5b := F5a
              rw [← HY.out] at F5b
              rw [hko] at F5b
              obtain ⟨a1, a2, a3⟩ := F5b
              go_wp2_with fail
              go_meet
              case rel => exact ⟨rfl, g2, U2, k2, OW, NW, fun zs hz => by rw [hko] at hz ⊢; exact a1 zs hz, a2, a3⟩
            refine AllReady.cons (o := { dst := none, op := Go.Op.store 23 (Go.Operand.tmp 54) (Go.Operand.tmp 51), type := 0, pos := "tree.go:78", after := #[{ on := 12, ground := Go.Ground.data }, { on := 8, ground := Go.Ground.data }, { on := 8, ground := Go.Ground.chain }, { on := 10, ground := Go.Ground.textOnly Go.Departure.appendInPlace }, { on := 0, ground := Go.Ground.phase }, { on := 1, ground := Go.Ground.phase }, { on := 2, ground := Go.Ground.phase }, { on := 3, ground := Go.Ground.phase }, { on := 4, ground := Go.Ground.phase }, { on := 5, ground := Go.Ground.phase }, { on := 6, ground := Go.Ground.phase }, { on := 7, ground := Go.Ground.phase }, { on := 8, ground := Go.Ground.phase }, { on := 9, ground := Go.Ground.textOnly Go.Departure.appendInPlace }, { on := 10, ground := Go.Ground.textOnly Go.Departure.appendInPlace }], guard := none }) rfl (fun K hK => ?_) AllReady.nil
            go_simp
            clear cX1 cX2
            obtain ⟨Y, hY⟩ : ∃ Y, Y = World.setCell X ⟨f.b, f.off + 5, none⟩ (.slice (some ⟨f.g, 0, none⟩) (f.n + 1) f.c) := ⟨_, rfl⟩
            rw [← hY]
            have HY : Hid (Y = World.setCell X ⟨f.b, f.off + 5, none⟩ (.slice (ko f.g f.c) (f.n + 1) f.c)) := by show Y = _; rw [hko]; exact hY
            refine hK _ _ ?_
            clear hK K
            try simp only [Act.put, List.setIfInBounds_toArray, List.set_cons_zero, List.set_cons_succ]
            refine wpAny_ready (rs := [10]) (by kernel_rfl) (by simp) ?_
            refine AllReady.cons (o := { dst := none, op := Go.Op.store 25 (Go.Operand.tmp 52) (Go.Operand.tmp 48), type := 0, pos := "tree.go:78", after := #[{ on := 9, ground := Go.Ground.data }, { on := 5, ground := Go.Ground.data }, { on := 8, ground := Go.Ground.chain }, { on := 0, ground := Go.Ground.phase }, { on := 1, ground := Go.Ground.phase }, { on := 2, ground := Go.Ground.phase }, { on := 3, ground := Go.Ground.phase }, { on := 4, ground := Go.Ground.phase }, { on := 5, ground := Go.Ground.phase }, { on := 6, ground := Go.Ground.phase }, { on := 7, ground := Go.Ground.phase }, { on := 8, ground := Go.Ground.phase }, { on := 13, ground := Go.Ground.gcOnly Go.Departure.appendInPlace }], guard := none }) rfl (fun K hK => ?_) AllReady.nil
            have kf : Kp [f.b] X Y := by rw [hY]; exact (Kp.refl _ _).setCell (Or.inl (by simp)) _
            have hgX : f.g < X.heap.size := block_lt_of_cell l0
            have ll := fun (j : Nat) => kf.cell (a := ⟨f.g, j, none⟩) hgX (by simp; exact fun e => hbg e.symm)
            have lff := fun (j : Nat) => kf.frozen (a := ⟨f.g, j, none⟩) hgX (by simp; exact fun e => hbg e.symm)
            have m0 := (ll _).trans l0
            have m1 := (ll _).trans l1
            have m2 := (ll _).trans l2
            have m3 := (ll _).trans l3
            have m4 := (ll _).trans l4
            have m5 := (ll _).trans l5
            have mf := fun j => (lff j).trans (lf j)
            clear hY ll lff l0 l1 l2 l3 l4 l5 lf
            go_simp
            refine hK _ _ ?_
            clear hK K
            try simp only [Act.put, List.setIfInBounds_toArray, List.set_cons_zero, List.set_cons_succ]
            refine wpAny_done (by kernel_rfl) ?_ _
            obtain ⟨Z, hZ⟩ : ∃ Z, Z = put6 Y f.g (f.n * 6) (.int .i64 u.2.1.kind) (.int .i64 u.2.1.ns) (.string u.2.1.name) (.slice none 0 0) (.string u.2.1.text) (.slice (ko g2 u.2.2.len) 0 u.2.2.len) := ⟨_, rfl⟩
            have hZu := hZ
            unfold put6 at hZu
            rw [← hZu]
            clear hZu
            rw [put6_eq] at hZ
            have HZ : Hid (Z = World.setCells Y f.g (f.n * 6) (six u.2.1 ((none, 0, 0), (ko g2 u.2.2.len, 0, u.2.2.len)))) := hZ
            have F5b := F5.out.2
            rw [← HY.out, ← HZ.out] at F5b
            obtain ⟨a1, a2, a3⟩ := F5b
            clear hZ
            go_wp2_with fail
            go_meet
            case rel => exact ⟨rfl, g2, U2, k2, OW, NW, a1, a2, a3⟩
          obtain ⟨rfl, g2, w2, k2, O2, NW2, T1, T2, T3⟩ := hcut
          clear HOW HC0
          have c5 := T2.cell.1
          unfold Fq.sl at c5
          simp only [hko] at c5
          have Q2 := HQ.out.kept k2
          have pl2 := Q2.pile.keep T3 (fun hx => (HAP.out _ hx).2.1 (by simp)) (fun x hx hx' => (HAP.out _ hx').2.1 (by simp [hx]))
          have L2 := (HL.out.kept k2).other T3 (fun x hx => (HAP.out x hx).1) (fun x hx hx' => (HAP.out x hx').2.2 hx)
          have HPU : Hid (∀ W, Kp [] wc W → Calls Try.prog 31 #[.pointer (some ⟨P, 0, none⟩), .pointer (some ⟨f.g, f.n * 6, none⟩)] W fun e w' => e = .returned (.tuple #[]) ∧ Tk 1 W w' 85 52 P pv (r.length + 1 + 1) (ptC f r ++ [.pointer (some ⟨f.g, f.n * 6, none⟩)])) := fun W kW => pt_push W P pv (r.length + 1) (ptC f r) ⟨f.g, f.n * 6, none⟩ (pl2.keep kW (by simp) (fun _ _ => by simp)) (by omega)
          have HCK : Hid (∀ W, Kp [] wc W → W.cell? ⟨f.b, f.off + 5, none⟩ = some (.slice (some ⟨f.g, 0, none⟩) (f.n + 1) f.c)) := fun W kW => by
            rw [kW.cell (a := ⟨f.b, f.off + 5, none⟩) (block_lt_of_cell c5) (by simp)]; exact c5
          have j1 : (0 : Int) ≤ (f.n : Int) := by omega
          have j2 : (f.n : Int) < (f.n : Int) + 1 := by omega
          have j3 : IntKind.i64.wrap (f.n : Int) = f.n := by rw [IntKind.wrap_i64]; omega
          clear c5 pl2
          go_wp2_with fail
          obtain ⟨U0, hU0⟩ : ∃ V, V = wc.drew := ⟨_, rfl⟩
          have k0 : Kp [] wc U0 := by rw [hU0]; exact (Kp.refl _ _).drew
          refine wp_region_g (S := fun V => V.cell? ⟨f.b, f.off + 5, none⟩ = some (.slice (some ⟨f.g, 0, none⟩) (f.n + 1) f.c)) (T := []) (by kernel_rfl) (HCK.out _ (Kp.refl [] wc).drew) (fun hHeld => ?_)
          rw [← hU0] at hHeld ⊢
          clear hU0
          refine wpAnyG_pure (i := 0) (oi := { dst := some 55, op := Go.Op.move (Go.Operand.tmp 4), type := 50, pos := "tree.go:79", after := #[], guard := none }) (v := ?_) rfl (by kernel_rfl) (by kernel_rfl) (by kernel_rfl) (by kernel_rfl) (fun _ _ _ h => h) (Or.inl ⟨by rfl, ?_⟩) (by assumption) ?_
          rotate_left
          · (intro w; go_simp; try with_reducible rfl)
          simp only [Act.put, List.setIfInBounds_toArray, List.set_cons_zero, List.set_cons_succ]
          refine wpAnyG_pure (i := 1) (oi := { dst := some 56, op := Go.Op.move (Go.Operand.tmp 9), type := 52, pos := "tree.go:79", after := #[], guard := none }) (v := ?_) rfl (by kernel_rfl) (by kernel_rfl) (by kernel_rfl) (by kernel_rfl) (fun _ _ _ h => h) (Or.inl ⟨by rfl, ?_⟩) (by assumption) ?_
          rotate_left
          · (intro w; go_simp; try with_reducible rfl)
          simp only [Act.put, List.setIfInBounds_toArray, List.set_cons_zero, List.set_cons_succ]
          refine wpAnyG_pure (i := 2) (oi := { dst := some 57, op := Go.Op.nilCheck (Go.Operand.tmp 56), type := 0, pos := "tree.go:79", after := #[{ on := 1, ground := Go.Ground.data }], guard := none }) (v := ?_) rfl (by kernel_rfl) (by kernel_rfl) (by kernel_rfl) (by kernel_rfl) (fun _ _ _ h => h) (Or.inl ⟨by rfl, ?_⟩) (by assumption) ?_
          rotate_left
          · (intro w; go_simp; try with_reducible rfl)
          simp only [Act.put, List.setIfInBounds_toArray, List.set_cons_zero, List.set_cons_succ]
          refine wpAnyG_pure (i := 3) (oi := { dst := some 58, op := Go.Op.fieldAddr 25 (Go.Operand.tmp 57) 5, type := 0, pos := "tree.go:79", after := #[{ on := 2, ground := Go.Ground.data }], guard := none }) (v := ?_) rfl (by kernel_rfl) (by kernel_rfl) (by kernel_rfl) (by kernel_rfl) (fun _ _ _ h => h) (Or.inl ⟨by rfl, ?_⟩) (by assumption) ?_
          rotate_left
          · (intro w; go_simp; try with_reducible rfl)
          simp only [Act.put, List.setIfInBounds_toArray, List.set_cons_zero, List.set_cons_succ]
          refine wpAnyG_take (i := 4) (oi := { dst := some 59, op := Go.Op.load 23 (Go.Operand.tmp 58), type := 23, pos := "tree.go:79", after := #[{ on := 3, ground := Go.Ground.data }], guard := none }) (v := ?_) rfl (by kernel_rfl) (by kernel_rfl) (by kernel_rfl) (by kernel_rfl) (fun _ _ _ h => h) (Or.inl ⟨by rfl, ?_⟩) (by assumption) ?_
          rotate_left
          · (intro w hSw; (try dsimp only at hSw); go_simp; try with_reducible rfl)
          simp only [Act.put, List.setIfInBounds_toArray, List.set_cons_zero, List.set_cons_succ]
          refine wpAnyG_pure (i := 5) (oi := { dst := some 60, op := Go.Op.move (Go.Operand.tmp 9), type := 52, pos := "tree.go:79", after := #[], guard := none }) (v := ?_) rfl (by kernel_rfl) (by kernel_rfl) (by kernel_rfl) (by kernel_rfl) (fun _ _ _ h => h) (Or.inl ⟨by rfl, ?_⟩) (by assumption) ?_
          rotate_left
          · (intro w; go_simp; try with_reducible rfl)
          simp only [Act.put, List.setIfInBounds_toArray, List.set_cons_zero, List.set_cons_succ]
          refine wpAnyG_pure (i := 6) (oi := { dst := some 61, op := Go.Op.nilCheck (Go.Operand.tmp 60), type := 0, pos := "tree.go:79", after := #[{ on := 5, ground := Go.Ground.data }], guard := none }) (v := ?_) rfl (by kernel_rfl) (by kernel_rfl) (by kernel_rfl) (by kernel_rfl) (fun _ _ _ h => h) (Or.inl ⟨by rfl, ?_⟩) (by assumption) ?_
          rotate_left
          · (intro w; go_simp; try with_reducible rfl)
          simp only [Act.put, List.setIfInBounds_toArray, List.set_cons_zero, List.set_cons_succ]
          refine wpAnyG_pure (i := 7) (oi := { dst := some 62, op := Go.Op.fieldAddr 25 (Go.Operand.tmp 61) 5, type := 0, pos := "tree.go:79", after := #[{ on := 6, ground := Go.Ground.data }], guard := none }) (v := ?_) rfl (by kernel_rfl) (by kernel_rfl) (by kernel_rfl) (by kernel_rfl) (fun _ _ _ h => h) (Or.inl ⟨by rfl, ?_⟩) (by assumption) ?_
          rotate_left
          · (intro w; go_simp; try with_reducible rfl)
          simp only [Act.put, List.setIfInBounds_toArray, List.set_cons_zero, List.set_cons_succ]
          refine wpAnyG_take (i := 8) (oi := { dst := some 63, op := Go.Op.load 23 (Go.Operand.tmp 62), type := 23, pos := "tree.go:79", after := #[{ on := 7, ground := Go.Ground.data }], guard := none }) (v := ?_) rfl (by kernel_rfl) (by kernel_rfl) (by kernel_rfl) (by kernel_rfl) (fun _ _ _ h => h) (Or.inl ⟨by rfl, ?_⟩) (by assumption) ?_
          rotate_left
          · (intro w hSw; (try dsimp only at hSw); go_simp; try with_reducible rfl)
          simp only [Act.put, List.setIfInBounds_toArray, List.set_cons_zero, List.set_cons_succ]
          refine wpAnyG_pure (i := 9) (oi := { dst := some 64, op := Go.Op.call { callee := Go.Callee.builtin Go.Builtin.len, args := #[Go.Operand.tmp 63], argTypes := #[23] }, type := 3, pos := "tree.go:79", after := #[{ on := 8, ground := Go.Ground.data }], guard := none }) (v := ?_) rfl (by kernel_rfl) (by kernel_rfl) (by kernel_rfl) (by kernel_rfl) (fun _ _ _ h => h) (Or.inl ⟨by rfl, ?_⟩) (by assumption) ?_
          rotate_left
          · (intro w; go_simp; try with_reducible rfl)
          simp only [Act.put, List.setIfInBounds_toArray, List.set_cons_zero, List.set_cons_succ]
          refine wpAnyG_pure (i := 10) (oi := { dst := some 65, op := Go.Op.binOp Go.BinOp.sub 3 (Go.Operand.tmp 64) (Go.Operand.const (Go.Value.int Go.IntKind.i64 1)) 3, type := 3, pos := "tree.go:79", after := #[{ on := 9, ground := Go.Ground.data }], guard := none }) (v := ?_) rfl (by kernel_rfl) (by kernel_rfl) (by kernel_rfl) (by kernel_rfl) (fun _ _ _ h => h) (Or.inl ⟨by rfl, ?_⟩) (by assumption) ?_
          rotate_left
          · (intro w; go_simp; try with_reducible rfl)
          simp only [Act.put, List.setIfInBounds_toArray, List.set_cons_zero, List.set_cons_succ]
          refine wpAnyG_pure (i := 11) (oi := { dst := some 66, op := Go.Op.indexAddr 23 (Go.Operand.tmp 59) (Go.Operand.tmp 65), type := 0, pos := "tree.go:79", after := #[{ on := 4, ground := Go.Ground.data }, { on := 10, ground := Go.Ground.data }], guard := none }) (v := ?_) rfl (by kernel_rfl) (by kernel_rfl) (by kernel_rfl) (by kernel_rfl) (fun _ _ _ h => h) (Or.inl ⟨by rfl, ?_⟩) (by assumption) ?_
          rotate_left
          · (intro w; go_simp; try with_reducible rfl)
          simp only [Act.put, List.setIfInBounds_toArray, List.set_cons_zero, List.set_cons_succ]
          refine wpAnyG_ready (rs := [12]) (by kernel_rfl) (by simp) ?_
          refine AllReadyG.cons (o := { dst := some 67, op := Go.Op.call { callee := Go.Callee.value (Go.Operand.func 31), args := #[Go.Operand.tmp 55, Go.Operand.tmp 66], argTypes := #[50, 52] }, type := 0, pos := "tree.go:79", after := #[{ on := 0, ground := Go.Ground.data }, { on := 11, ground := Go.Ground.data }], guard := none }) rfl (fun K hK => ?_) AllReadyG.nil
          go_simp
          go_at_call 31
          refine (HPU.out _ k0).mono ?_
          rintro e w6 ⟨rfl, pv6, P6, k6, b6⟩
          go_wp2_with fail
          have HK6 : Hid (w6.cell? ⟨f.b, f.off + 5, none⟩ = some (.slice (some ⟨f.g, 0, none⟩) (f.n + 1) f.c)) := by
            have c1 := HCK.out _ k0
            exact (k6.cell (a := ⟨f.b, f.off + 5, none⟩) (block_lt_of_cell c1) (fun hx => (HAP.out f.b (by simp)).2.1 hx)).trans c1
          refine hK.out _ _ HK6.out (fun hHeld1 => ?_)
          clear hK K hHeld
          try simp only [Act.put, List.setIfInBounds_toArray, List.set_cons_zero, List.set_cons_succ]
          refine wpAnyG_free (by kernel_rfl) ?_
          refine wpAny_done (by kernel_rfl) ?_ _
          have k6c : Kp (P :: blk pv) wc w6 := (k0.mono (T := P :: blk pv) (fun z hz => by simp at hz)).trans k6 (fun z hz => Or.inl hz)
          have sz0 := k0.size
          have Q6 := Cq.push (B := B) (w2 := w2) (w5 := wc) (w6 := w6) Q2 hrest ub1 O2 (fun x hx => ?hn2) ⟨T1, T2, T3⟩ P6 k6c (fun x hx => by rcases b6 x hx with e | e; exact Or.inl e; exact Or.inr (by omega)) (fun x hx => by have := HL.out.lt x hx; have := k2.size; omega) HFB.out
          case hn2 =>
            have h1 := NW2 x hx
            have h2 := HL.out.kp.size
            exact ⟨fun hx' => by have := (HQ.out.new x hx').2; omega, by omega, fun hx' => by have := (HQ.out.pw x hx').2.1; omega, fun hx' => by have := HL.out.lt x hx'; omega⟩
          have L6 := L2.other k6c (fun x hx => (HQ.out.pw x hx).1) (fun x hx hx' => (HQ.out.pw x hx').2.2 hx)
          have ht6 := HT2 ⟨f.g, f.n * 6, u.2.1, g2, 0, u.2.2.len, .nil, u.2.2⟩ { f with n := f.n + 1, done := f.done, rest := rs } rfl rfl
          have hw6 : whole ⟨f.g, f.n * 6, u.2.1, g2, 0, u.2.2.len, .nil, u.2.2⟩ ({ f with n := f.n + 1, done := f.done, rest := rs } :: r) .nil = .cons l k .nil := by
            rw [← HWH.out]
            show whole { f with n := f.n + 1, done := f.done, rest := rs } r (f.done.app (.cons u.2.1 (Fo.nil.app u.2.2) .nil)) = _
            exact whole_app (f := { f with n := f.n + 1, done := f.done, rest := rs }) _ f rfl _ (by rw [hrest, Fo.app_assoc]; rfl)
          have HB6 : Hid (bot (⟨f.g, f.n * 6, u.2.1, g2, 0, u.2.2.len, .nil, u.2.2⟩ : Fq) ({ f with n := f.n + 1, done := f.done, rest := rs } :: r) = A) := (bot_done f r _ _ _).trans hbot
          have HNX := next_c _ _ _ _ _ _ _ L6
          have HQ6 : Hid _ := Q6
          have HT6 : Hid _ := ht6
          have HW6 : Hid _ := hw6
          have HRL : Hid (r.length + 1 ≤ 20002) := by show r.length + 1 ≤ 20002; omega
          clear Q6 L6 ht6 hw6 Q2 L2 HPU HCK P6 k6 b6 k6c HK6 T1 T2 T3 O2 NW2 hHeld1
          go_wp2_with (go_at_call 33; refine HNX.mono ?_; rintro e w7 ⟨ao7, d7, y7, v7, rfl, L7, N7, C7⟩)
          have Q7 := HQ6.out.next N7
          have HRC : Hid (RCopy B s P A l k p (.pointer ao7, .int .i64 d7, .bool y7, w7) S.length) := ⟨S, v7, pv6, ao7, d7, y7, _, _, Kd, rfl, rfl, rfl, rfl, L7, C7, Q7, HT6.out, HW6.out, HB6.out, HBR.out, by simp; have := HRL.out; omega, HBGN.out.push _⟩
          go_roundw
          case rel => exact ⟨_, HRC.out⟩
          case measure =>
            refine Nat.lt_of_le_of_lt (HM.out _ _ HRC.out) ?_
            rw [← HS2.out]; simp

/-- The copy as a node: all that it holds is new. -/
theorem copy_nd (w : World) (l : Lb) (k : Fo) (p : Pl) (h : Nd Any w l k p) (hl : (Fo.cons l k .nil).Each bareL) (hn : k.cnt ≤ 20000) :
    Calls Try.prog 12 #[wv l p] w fun e w' => ∃ q, e = .returned (wv l q) ∧ Nd (fun z => w.heap.size ≤ z) w' l k q ∧ Kp [] w w' := by
  refine (copy_tree w l k p h hl hn).mono ?_
  rintro e w' ⟨g, zs, rfl, h1, h2, h3, h4⟩
  refine ⟨_, rfl, ⟨by rw [hl.1.1]; exact Rk.nil _ 2 _ none 0, Rt.of_own h1 rfl (fun x hx => by rw [blk_ko x hx]; exact h3) (h2.mono (fun _ _ h => h.1))⟩, h4⟩

end Go.Proofs.Ytgnbafgglkncmaa
