/-
  A copy under way: what append and the two stores behind it do. No program.
-/
import Derived.Test.YtgnbafgglkncmaaCopyC
namespace Go.Proofs.Ytgnbafgglkncmaa
open Go.RowKit
set_option linter.unusedVariables false

/-- The blocks are apart. -/
theorem Cq.apart {B w : World} {P : Nat} {pv : Value} {own : List Nat} {f : Fq} {r : List Fq} {K : List Nat} (h : Cq B w P pv own f r K) (hc : 0 < f.c) : f.b ∈ live f r K ∧ f.g ∈ live f r K ∧ f.b ≠ f.g ∧ f.b ∉ K ∧ f.g ∉ K ∧ f.g ∉ opn r ∧ bot f r ≠ f.g ∧ (opn r).Nodup ∧ bot f r ∉ opn r := by
  have hgl : f.g ∈ blk f.sl := by simp [Fq.sl, ko, show f.c ≠ 0 by omega, blk]
  have hgL : f.g ∈ live f r K := live_opn (by simp [opn, hgl])
  have hnd := h.nd
  unfold live at hnd
  obtain ⟨n1, n2⟩ := List.nodup_cons.1 hnd
  obtain ⟨n3, n4, n5⟩ := List.nodup_append.1 n2
  simp only [opn] at n1 n3 n5
  obtain ⟨n6, n7, n8⟩ := List.nodup_append.1 n3
  have hbg : bot f r ≠ f.g := fun e => n1 (by rw [e]; simp [hgl])
  have hbo : bot f r ∉ opn r := fun e => n1 (by simp [e])
  have hgK : f.g ∉ K := fun e => n5 f.g (by simp [hgl]) f.g e rfl
  have hgo : f.g ∉ opn r := fun e => n8 f.g hgl f.g e rfl
  have hb : f.b = bot f r ∨ f.b ∈ opn r := by
    cases r with
    | nil => exact Or.inl rfl
    | cons g r =>
      right
      obtain ⟨e1, _, _, _, ⟨zs, e5, _, _⟩, _⟩ := h.un
      have hgc : g.c ≠ 0 := fun e0 => by
        have e6 := e5.1
        rw [List.length_append, Fq.six_len] at e6
        rcases e5.2 with ⟨e7, e8⟩ | ⟨g', o, cap, cur, hv, hg, e7, e8, e9, e10⟩
        · omega
        · unfold Fq.sl at hv
          simp only [Value.slice.injEq] at hv
          omega
      rw [e1]
      simp [opn, Fq.sl, ko, hgc, blk]
  refine ⟨?_, hgL, ?_, ?_, hgK, hgo, hbg, n7, hbo⟩
  · rcases hb with e | e
    · rw [e]; exact live_bot
    · exact live_opn (by simp only [opn, List.mem_append]; exact Or.inr e)
  · rcases hb with e | e
    · rw [e]; exact hbg
    · exact fun e' => hgo (by rw [← e']; exact e)
  · rcases hb with e | e
    · rw [e]; exact fun hk => n1 (by simp [hk])
    · exact fun hk => n5 f.b (by simp [e]) f.b hk rfl

theorem blk_ko {g c n : Nat} : ∀ x, x ∈ blk (.slice (ko g c) n c) → x = g := fun x hx => by
  unfold ko at hx
  split at hx
  · simp [blk] at hx
  · simpa [blk] using hx

/-- append, the new one's cells, then the field. -/
theorem Cq.five {B w : World} {P : Nat} {pv : Value} {own : List Nat} {f : Fq} {r : List Fq} {K : List Nat} (h : Cq B w P pv own f r K) (hn : f.n < f.c) (ys : List Value) (hy : ys.length = 6) (zs' : List Value) (hz' : zs'.length = 6) (rs : Fo) :
    ((∀ zs, OwnK 6 w 25 (.slice (ko f.g f.c) f.n f.c) f.n zs → OwnK 6 (((w.setCells f.g (f.n * 6) zs').setCells f.g (f.n * 6) ys).setCell ⟨f.b, f.off + 5, none⟩ (.slice (ko f.g f.c) (f.n + 1) f.c)) 25 (.slice (ko f.g f.c) (f.n + 1) f.c) (f.n + 1) (zs ++ ys)) ∧ Un (· ∈ K) (((w.setCells f.g (f.n * 6) zs').setCells f.g (f.n * 6) ys).setCell ⟨f.b, f.off + 5, none⟩ (.slice (ko f.g f.c) (f.n + 1) f.c)) { f with n := f.n + 1, done := f.done, rest := rs } r ∧ Kp [f.g, f.b] w (((w.setCells f.g (f.n * 6) zs').setCells f.g (f.n * 6) ys).setCell ⟨f.b, f.off + 5, none⟩ (.slice (ko f.g f.c) (f.n + 1) f.c))) ∧
    ((∀ zs, OwnK 6 w 25 (.slice (ko f.g f.c) f.n f.c) f.n zs → OwnK 6 (((w.setCells f.g (f.n * 6) zs').setCell ⟨f.b, f.off + 5, none⟩ (.slice (ko f.g f.c) (f.n + 1) f.c)).setCells f.g (f.n * 6) ys) 25 (.slice (ko f.g f.c) (f.n + 1) f.c) (f.n + 1) (zs ++ ys)) ∧ Un (· ∈ K) (((w.setCells f.g (f.n * 6) zs').setCell ⟨f.b, f.off + 5, none⟩ (.slice (ko f.g f.c) (f.n + 1) f.c)).setCells f.g (f.n * 6) ys) { f with n := f.n + 1, done := f.done, rest := rs } r ∧ Kp [f.g, f.b] w (((w.setCells f.g (f.n * 6) zs').setCell ⟨f.b, f.off + 5, none⟩ (.slice (ko f.g f.c) (f.n + 1) f.c)).setCells f.g (f.n * 6) ys)) := by
  obtain ⟨_, _, a1, a2, a3, a4, a5, a6, a7⟩ := h.apart (by omega)
  have kX : Kp [f.g] w (w.setCells f.g (f.n * 6) zs') := Kp.setCells f.g (Or.inl (by simp)) _ _ _ (Kp.refl _ _)
  have kY : Kp [f.g] w ((w.setCells f.g (f.n * 6) zs').setCells f.g (f.n * 6) ys) := Kp.setCells f.g (Or.inl (by simp)) _ _ _ kX
  have sg : ∀ {V V' : World}, Kp [f.g] V V' → Sm (· ∈ K) V V' := fun k => k.sms (fun x hx => by simp; intro e; subst e; exact a3 hx)
  refine ⟨⟨fun zs hz => ?_, ?_, ?_⟩, ⟨fun zs hz => ?_, ?_, ?_⟩⟩
  · exact ((hz.beyond hn hz').room hn hy).keep ((Kp.refl [f.b] _).setCell (Or.inl (by simp)) _) (fun x hx => by rw [blk_ko x hx]; simp; exact fun e => a1 e.symm)
  · exact (h.un.keep kY (sg kY) (fun x hx => by simp; intro e; subst e; exact a4 hx) (by simp; exact a5)).turn (f.n + 1) f.done rs a2 a6 a7
  · exact (kY.mono (T := [f.g, f.b]) (fun x hx => Or.inl (by simp at hx; simp [hx]))).setCell (Or.inl (by simp)) _
  · exact ((hz.beyond hn hz').keep ((Kp.refl [f.b] _).setCell (Or.inl (by simp)) _) (fun x hx => by rw [blk_ko x hx]; simp; exact fun e => a1 e.symm)).room hn hy
  · have hX := (h.un.keep kX (sg kX) (fun x hx => by simp; intro e; subst e; exact a4 hx) (by simp; exact a5)).turn (f.n + 1) f.done rs a2 a6 a7
    have kZ : Kp [f.g] ((w.setCells f.g (f.n * 6) zs').setCell ⟨f.b, f.off + 5, none⟩ (.slice (ko f.g f.c) (f.n + 1) f.c)) (((w.setCells f.g (f.n * 6) zs').setCell ⟨f.b, f.off + 5, none⟩ (.slice (ko f.g f.c) (f.n + 1) f.c)).setCells f.g (f.n * 6) ys) := Kp.setCells f.g (Or.inl (by simp)) _ _ _ (Kp.refl _ _)
    exact hX.keep kZ (sg kZ) (fun x hx => by simp; intro e; subst e; exact a4 hx) (by rw [bot_done]; simp; exact a5)
  · exact Kp.setCells f.g (Or.inl (by simp)) _ _ _ ((kX.mono (T := [f.g, f.b]) (fun x hx => Or.inl (by simp at hx; simp [hx]))).setCell (Or.inl (by simp)) _)

/-- The last one's cells. -/
theorem last_cells {w : World} {g n c : Nat} {zs : List Value} {v0 v1 v2 v3 v4 v5 : Value} (h : OwnK 6 w 25 (.slice (ko g c) (n + 1) c) (n + 1) (zs ++ [v0, v1, v2, v3, v4, v5])) (hn : n < c) : (w.cell? ⟨g, n * 6, none⟩ = some v0 ∧ w.cell? ⟨g, n * 6 + 1, none⟩ = some v1 ∧ w.cell? ⟨g, n * 6 + 2, none⟩ = some v2 ∧ w.cell? ⟨g, n * 6 + 3, none⟩ = some v3 ∧ w.cell? ⟨g, n * 6 + 4, none⟩ = some v4 ∧ w.cell? ⟨g, n * 6 + 5, none⟩ = some v5) ∧ ∀ j, w.frozen? ⟨g, j, none⟩ = false := by
  have hz := h.1
  rw [List.length_append] at hz
  simp only [List.length_cons, List.length_nil] at hz
  have hz' : zs.length = n * 6 := by omega
  obtain ⟨cur, hg, a1, a2, a3, a4⟩ := h.cells (by omega)
  have key : ∀ j, j < 6 → w.cell? ⟨g, n * 6 + j, none⟩ = [v0, v1, v2, v3, v4, v5][j]? := fun j hj => by
    rw [hg.cell, a4 _ (by omega), List.getElem?_append_right (by omega), hz', show n * 6 + j - n * 6 = j by omega]
  exact ⟨⟨key 0 (by omega), key 1 (by omega), key 2 (by omega), key 3 (by omega), key 4 (by omega), key 5 (by omega)⟩, fun j => hg.free j⟩

/-- A label that Copy is asked of here. -/
def bareL (l : Lb) : Prop := l.attrs = [] ∧ l.name.size ≤ 1000000 ∧ l.text.size ≤ 1000000

/-- The loop of Copy. -/
def RCopy (B : World) (s : Ws) (P A : Nat) (l : Lb) (k : Fo) (p : Pl) (a : Value × Value × Value × World) (n : Nat) : Prop :=
  ∃ (S : List Vt) (v pv : Value) (ao : Option Addr) (d : Int) (y : Bool) (f : Fq) (r : List Fq) (K : List Nat), a.1 = .pointer ao ∧ a.2.1 = .int .i64 d ∧ a.2.2.1 = .bool y ∧ S.length = n ∧ Wl B a.2.2.2 (s.at v) S.tail l k p ∧ Come B a.2.2.2 (s.at v) S ao d y ∧ Cq B a.2.2.2 P pv (s.at v).own f r K ∧ tC f r = S ∧ whole f r f.done = .cons l k .nil ∧ bot f r = A ∧ (∀ u, u ∈ S → bareL u.2.1 ∧ u.1 ≤ 20001) ∧ r.length ≤ 20002

/-- The loop that pops. -/
def RPop (B : World) (s : Ws) (P A : Nat) (l : Lb) (k : Fo) (p : Pl) (v : Value) (u : Vt) (S : List Vt) (b off : Nat) (w : World) (n : Nat) : Prop :=
  ∃ (pv : Value) (f : Fq) (r : List Fq) (K : List Nat), Wl B w (s.at v) S l k p ∧ Told6 B w (s.at v) b off u.2.1 u.2.2 ∧ Cq B w P pv (s.at v).own f r K ∧ tC f r = u :: S ∧ whole f r f.done = .cons l k .nil ∧ bot f r = A ∧ r.length = n ∧ r.length ≤ 20002

/-- It pops once more. -/
theorem RPop.pop {B w w' : World} {s : Ws} {P A : Nat} {l : Lb} {k : Fo} {p : Pl} {v : Value} {u : Vt} {S : List Vt} {b off : Nat} {pv pv' : Value} {f g : Fq} {r : List Fq} {K : List Nat} (L : Wl B w (s.at v) S l k p) (T : Told6 B w (s.at v) b off u.2.1 u.2.2) (C : Cq B w P pv (s.at v).own f (g :: r) K) (ht : tC f (g :: r) = u :: S) (hw : whole f (g :: r) f.done = .cons l k .nil) (hA : bot f (g :: r) = A) (hd : u.1 < r.length + 1) (hr : r.length + 1 ≤ 20002)
    (hp : Pk 1 w' 85 52 P pv' (r.length + 1) (ptC g r)) (kk : Kp (P :: blk pv) w w') (hb : ∀ x, x ∈ blk pv' → x ∈ blk pv ∨ w.heap.size ≤ x) : RPop B s P A l k p v u S b off w' r.length := by
  have hrest : f.rest = .nil := (tC_deep ht).2 (by simpa using hd)
  have ht2 : tC g r = u :: S := by
    simp only [tC, hrest, vis_nil, List.nil_append] at ht
    exact ht
  have e1 : ∀ x, x ∈ P :: blk pv → B.heap.size ≤ x := fun x hx => (C.pw x hx).1
  have e2 : ∀ x, x ∈ (s.at v).own → x ∉ P :: blk pv := fun x hx hx' => (C.pw x hx').2.2 hx
  refine ⟨pv', { g with done := g.done.app (.cons f.l f.done .nil) }, r, blk f.sl ++ K, L.other kk e1 e2, T.keep kk e1 e2, C.pop hp kk hb L.lt, ?_, ?_, ?_, rfl, by omega⟩
  · cases r with
    | nil => exact ht2
    | cons e r => exact ht2
  · have : whole f (g :: r) f.done = whole g r (g.done.app (.cons f.l (f.done.app f.rest) .nil)) := rfl
    rw [this, hrest, Fo.app_nil'] at hw
    rw [← hw]
    exact whole_app (f := { g with done := g.done.app (.cons f.l f.done .nil) }) _ g rfl _ rfl
  · rw [← hA]
    exact bot_done g r g.n _ g.rest

end Go.Proofs.Ytgnbafgglkncmaa
