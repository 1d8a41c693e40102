/-
  A copy under way: the nodes on the way, the pile of their addresses, the blocks that are done (K). No program.
-/
import Derived.Test.YtgnbafgglkncmaaCopyB
import Derived.Test.YtgnbafgglkncmaaPtrs
import Derived.Test.YtgnbafgglkncmaaTell
namespace Go.Proofs.Ytgnbafgglkncmaa
open Go.RowKit
set_option linter.unusedVariables false

/-- The addresses of the nodes on the way, the last one on top. -/
def ptC : Fq → List Fq → List Value
  | f, [] => [.pointer (some ⟨f.b, f.off, none⟩)]
  | f, g :: r => ptC g r ++ [.pointer (some ⟨f.b, f.off, none⟩)]

/-- All blocks of the copy. -/
def live (f : Fq) (r : List Fq) (K : List Nat) : List Nat := bot f r :: (opn (f :: r) ++ K)

structure Cq (B w : World) (P : Nat) (pv : Value) (own : List Nat) (f : Fq) (r : List Fq) (K : List Nat) : Prop where
  lq : Lq (· ∈ K) w f []
  un : Un (· ∈ K) w f r
  pile : Pk 1 w 85 52 P pv (r.length + 1) (ptC f r)
  nd : (live f r K).Nodup
  new : ∀ x, x ∈ live f r K → B.heap.size ≤ x ∧ x < w.heap.size
  ap : ∀ x, x ∈ live f r K → x ∉ P :: blk pv ∧ x ∉ own
  pw : ∀ x, x ∈ P :: blk pv → B.heap.size ≤ x ∧ x < w.heap.size ∧ x ∉ own

theorem live_opn {f : Fq} {r : List Fq} {K : List Nat} {x : Nat} (h : x ∈ opn (f :: r)) : x ∈ live f r K := by
  unfold live
  exact List.mem_cons_of_mem _ (List.mem_append_left _ h)
theorem live_k {f : Fq} {r : List Fq} {K : List Nat} {x : Nat} (h : x ∈ K) : x ∈ live f r K := by
  unfold live
  exact List.mem_cons_of_mem _ (List.mem_append_right _ h)
theorem live_bot {f : Fq} {r : List Fq} {K : List Nat} : bot f r ∈ live f r K := by
  unfold live
  exact List.mem_cons_self ..

/-- What others do to blocks that are not the copy's. -/
theorem Cq.other {B w w' : World} {P : Nat} {pv : Value} {own own' : List Nat} {f : Fq} {r : List Fq} {K : List Nat} (h : Cq B w P pv own f r K) {D : List Nat} (k : Kp D w w') (h1 : ∀ x, x ∈ live f r K → x ∉ D) (h2 : ∀ x, x ∈ P :: blk pv → x ∉ D) (ho : ∀ x, x ∈ own' → x ∈ own ∨ w.heap.size ≤ x) : Cq B w' P pv own' f r K := by
  have hsz := k.size
  have hs : Sm (· ∈ K) w w' := k.sms (fun x hx => h1 x (live_k hx))
  refine ⟨h.lq.keep k (fun x hx => h1 x (live_opn (by simp [opn, hx]))) hs, h.un.keep k hs (fun x hx => h1 x (live_opn (by simp [opn, hx]))) (h1 _ live_bot), h.pile.keep k (h2 _ (by simp)) (fun x hx => h2 x (by simp [hx])), h.nd, fun x hx => ⟨(h.new x hx).1, by have := (h.new x hx).2; omega⟩, fun x hx => ⟨(h.ap x hx).1, fun hx' => ?_⟩, fun x hx => ⟨(h.pw x hx).1, by have := (h.pw x hx).2.1; omega, fun hx' => ?_⟩⟩
  · rcases ho x hx' with h3 | h3
    · exact (h.ap x hx).2 h3
    · have := (h.new x hx).2; omega
  · rcases ho x hx' with h3 | h3
    · exact (h.pw x hx).2.2 h3
    · have := (h.pw x hx).2.1; omega

theorem Cq.kept {B w w' : World} {P : Nat} {pv : Value} {own : List Nat} {f : Fq} {r : List Fq} {K : List Nat} (h : Cq B w P pv own f r K) (k : Kp [] w w') : Cq B w' P pv own f r K := h.other k (fun _ _ => by simp) (fun _ _ => by simp) (fun x hx => Or.inl hx)

/-- The walk goes on. -/
theorem Cq.next {B w w' : World} {P : Nat} {pv : Value} {s : Ws} {v' : Value} {f : Fq} {r : List Fq} {K : List Nat} (h : Cq B w P pv s.own f r K) (n : Nx w w' s v') : Cq B w' P pv (s.at v').own f r K :=
  h.other n.kp (fun x hx => (h.ap x hx).2) (fun x hx => (h.pw x hx).2.2) n.own

theorem ptC_cons (f g : Fq) (r : List Fq) : ptC f (g :: r) = ptC g r ++ [.pointer (some ⟨f.b, f.off, none⟩)] := rfl

theorem ptC_top (f : Fq) (r : List Fq) : ∃ xs, ptC f r = xs ++ [.pointer (some ⟨f.b, f.off, none⟩)] := by
  cases r with
  | nil => exact ⟨[], rfl⟩
  | cons g r => exact ⟨_, rfl⟩

theorem ptC_done (g : Fq) (r : List Fq) (n' : Nat) (d' s' : Fo) : ptC { g with n := n', done := d', rest := s' } r = ptC g r := by cases r <;> rfl
theorem bot_done (g : Fq) (r : List Fq) (n' : Nat) (d' s' : Fo) : bot { g with n := n', done := d', rest := s' } r = bot g r := by cases r <;> rfl

theorem mem_perm {f g : Fq} {r : List Fq} {K : List Nat} {g' : Fq} (hb : bot g' r = bot g r) (hs : blk g'.sl = blk g.sl) : (live g' r (blk f.sl ++ K)).Perm (live f (g :: r) K) := by
  unfold live
  rw [hb, show bot f (g :: r) = bot g r from rfl]
  refine List.Perm.cons _ ?_
  simp only [opn, hs]
  rw [← List.append_assoc]
  refine List.Perm.trans (List.Perm.append_right K List.perm_append_comm) ?_
  simp only [List.append_assoc]
  exact List.Perm.refl _

/-- The one on top is done: it is popped. -/
theorem Cq.pop {B w w' : World} {P : Nat} {pv pv' : Value} {own : List Nat} {f g : Fq} {r : List Fq} {K : List Nat} (h : Cq B w P pv own f (g :: r) K) (hp : Pk 1 w' 85 52 P pv' (r.length + 1) (ptC g r)) (k : Kp (P :: blk pv) w w') (hb : ∀ x, x ∈ blk pv' → x ∈ blk pv ∨ w.heap.size ≤ x) (hown : ∀ x, x ∈ own → x < w.heap.size) :
    Cq B w' P pv' own { g with done := g.done.app (.cons f.l f.done .nil) } r (blk f.sl ++ K) := by
  have hsz := k.size
  have hs : Sm (· ∈ K) w w' := k.sms (fun x hx => (h.ap x (live_k hx)).1)
  have h1 : Lq (· ∈ K) w' f [] := h.lq.keep k (fun x hx => (h.ap x (live_opn (by simp [opn, hx]))).1) hs
  have h2 : Un (· ∈ K) w' f (g :: r) := h.un.keep k hs (fun x hx => (h.ap x (live_opn (by simp only [opn, List.mem_append] at hx ⊢; exact Or.inr hx))).1) (h.ap _ live_bot).1
  have hm : ∀ x, x < w'.heap.size → x ∈ K → x ∈ blk f.sl ++ K := fun x _ hx => List.mem_append_right _ hx
  obtain ⟨h3, h4⟩ := (h1.mono hm).close (h2.mono hm) (fun x hx => List.mem_append_left _ hx)
  have pm := mem_perm (f := f) (g := g) (r := r) (K := K) (g' := { g with done := g.done.app (.cons f.l f.done .nil) }) (bot_done g r g.n _ g.rest) rfl
  refine ⟨h3, h4, by rw [ptC_done g r g.n _ g.rest]; exact hp, pm.nodup_iff.2 h.nd, fun x hx => ?_, fun x hx => ?_, fun x hx => ?_⟩
  · have := h.new x (pm.mem_iff.1 hx)
    exact ⟨this.1, by omega⟩
  · have h5 := h.ap x (pm.mem_iff.1 hx)
    have h6 := h.new x (pm.mem_iff.1 hx)
    refine ⟨fun hx' => ?_, h5.2⟩
    rcases List.mem_cons.1 hx' with e | e
    · exact h5.1 (by simp [e])
    · rcases hb x e with e | e
      · exact h5.1 (by simp [e])
      · omega
  · have hpl := hp.2.1.lt
    rcases List.mem_cons.1 hx with e | e
    · have := h.pw x (by simp [e])
      exact ⟨this.1, by omega, this.2.2⟩
    · rcases hb x e with e' | e'
      · have := h.pw x (by simp [e'])
        exact ⟨this.1, by omega, this.2.2⟩
      · have h7 := hpl x e
        have h8 := (h.pw P (by simp)).1
        have h9 := (h.pw P (by simp)).2.1
        refine ⟨by omega, h7, fun ho => ?_⟩
        have := hown x ho
        omega

/-- What lies behind the last one does not matter. -/
theorem OwnK.beyond {w : World} {g n c : Nat} {zs ys : List Value} (h : OwnK 6 w 25 (.slice (ko g c) n c) n zs) (hn : n < c) (hy : ys.length = 6) : OwnK 6 (w.setCells g (n * 6) ys) 25 (.slice (ko g c) n c) n zs := by
  have hz := h.1
  obtain ⟨cur, hg, h1, h2, h3, h4⟩ := h.cells (by omega)
  have hm : (n + 1) * 6 ≤ c * 6 := Nat.mul_le_mul_right 6 hn
  obtain ⟨cur', hg', hs'⟩ := setCells_block g 25 ys (n * 6) w cur hg
  have hget := setCells_get g 25 ys (n * 6) w cur cur' hg hg' (by omega)
  refine OwnK.of_cells (by omega) hz hg' h1 h2 (by omega) (fun j hj => ?_)
  rw [hget, if_neg (by omega), h4 j hj]

/-- append, where there is room: its run. -/
theorem room_run {w : World} {g n c gz : Nat} {zs : List Value} (h : OwnK 6 w 25 (.slice (ko g c) n c) n zs) (hn : n < c) {cur : Array Value} (hz : At w gz cur 25) (ys : List Value) (hc : cur = ys.toArray) (hy : ys.length = 6) (h1 : ∀ u, u ∈ ys → u.oneCell' = true) :
    ∀ ty, (Builtin.append_ #[23, 23] ty #[.slice (some ⟨g, 0, none⟩) n c, .slice (some ⟨gz, 0, none⟩) 1 1]).run Try.prog w = .ok (.slice (some ⟨g, 0, none⟩) (n + 1) c) (w.setCells g (n * 6) ys) := fun ty => by
  obtain ⟨i, hi0, hi1, hi2, hi3⟩ := info_parts info25t
  obtain ⟨cur', hg, a1, a2, a3, a4⟩ := h.cells (by omega)
  have hm : (n + 1) * 6 ≤ c * 6 := Nat.mul_le_mul_right 6 hn
  have hs := src_new (P := Try.prog) Try.underlying23 hz ys hc h1
  rw [hy] at hs
  have := run_append_room_src (P := Try.prog) w 23 23 ty 25 i Try.underlying23 hi0 g 0 n c (.slice (some ⟨gz, 0, none⟩) 1 1) 1 ys (by rw [hi2]; exact hs) (by omega) (fun j hj => by
      rw [hi2, hg.cell, Array.getElem?_eq_getElem (by omega)]; rfl) (fun j hj => hg.free _)
  rwa [hi2, Nat.zero_add] at this

/-- One more under the one on top. w2: behind own and the new cells; w5: behind append and both stores. -/
theorem Cq.push {B w2 w5 w6 : World} {P : Nat} {pv pv' : Value} {own : List Nat} {f : Fq} {r : List Fq} {K : List Nat} {lb : Lb} {kd rs : Fo} {g2 : Nat} (h : Cq B w2 P pv own f r K) (hrest : f.rest = .cons lb kd rs) (ha : lb.attrs = [])
    (ho : OwnK 6 w2 25 (.slice (ko g2 kd.len) 0 kd.len) 0 []) (hn2 : ∀ x, x ∈ blk (.slice (ko g2 kd.len) 0 kd.len) → x ∉ live f r K ∧ B.heap.size ≤ x ∧ x ∉ P :: blk pv ∧ x ∉ own)
    (h5 : (∀ zs, OwnK 6 w2 25 (.slice (ko f.g f.c) f.n f.c) f.n zs → OwnK 6 w5 25 (.slice (ko f.g f.c) (f.n + 1) f.c) (f.n + 1) (zs ++ six lb ((none, 0, 0), (ko g2 kd.len, 0, kd.len)))) ∧ Un (· ∈ K) w5 { f with n := f.n + 1, done := f.done, rest := rs } r ∧ Kp [f.g, f.b] w2 w5)
    (hp : Pk 1 w6 85 52 P pv' (r.length + 1 + 1) (ptC f r ++ [.pointer (some ⟨f.g, f.n * 6, none⟩)])) (k6 : Kp (P :: blk pv) w5 w6) (hb : ∀ x, x ∈ blk pv' → x ∈ blk pv ∨ w5.heap.size ≤ x) (hown : ∀ x, x ∈ own → x < w2.heap.size) (hfb : f.b ∈ live f r K) :
    Cq B w6 P pv' own ⟨f.g, f.n * 6, lb, g2, 0, kd.len, .nil, kd⟩ ({ f with n := f.n + 1, done := f.done, rest := rs } :: r) K := by
  obtain ⟨h51, h52, h53⟩ := h5
  have s5 := h53.size
  have s6 := k6.size
  have hc0 : f.n + f.rest.len = f.c := by obtain ⟨zs, _, _, h3⟩ := h.lq; exact h3
  rw [hrest, Fo.len_cons] at hc0
  have hgl : f.g ∈ blk f.sl := by simp [Fq.sl, ko, show f.c ≠ 0 by omega, blk]
  have hgL : f.g ∈ live f r K := live_opn (by simp [opn, hgl])
  have hnd := h.nd
  -- the done ones are as they were
  have hKg : ∀ x, x ∈ K → x ≠ f.g ∧ x ≠ f.b := fun x hx => by
    unfold live at hnd hfb
    have h1 := (List.nodup_cons.1 hnd).1
    have h2 := (List.nodup_append.1 (List.nodup_cons.1 hnd).2).2.2
    refine ⟨fun e => h2 f.g (by simp [opn, hgl]) x hx e.symm, fun e => ?_⟩
    cases r with
    | nil => exact h1 (by rw [show bot f [] = f.b from rfl, ← e]; simp [hx])
    | cons g r =>
      obtain ⟨e1, _, _, _, ⟨zs, e5, _, _⟩, _⟩ := h.un
      have hgg : g.g ∈ opn (f :: g :: r) := by
        have hgc : g.c ≠ 0 := fun e0 => by
          have e6 := e5.1
          rw [List.length_append, Fq.six_len] at e6
          rcases e5.2 with ⟨e7, e8⟩ | ⟨g', o, cap, cur, hv, hg, e7, e8, e9, e10⟩
          · omega
          · unfold Fq.sl at hv
            simp only [Value.slice.injEq] at hv
            omega
        simp [opn, Fq.sl, ko, hgc, blk]
      exact h2 g.g hgg x hx (by rw [e, e1])
  have hsK : Sm (· ∈ K) w2 w6 := fun x hx hl => by
    rw [k6.block x (by omega) ((h.ap x (live_k hx)).1), h53.block x hl (by have := hKg x hx; simp; omega)]
  have hsK5 : Sm (· ∈ K) w5 w6 := k6.sms (fun x hx => (h.ap x (live_k hx)).1)
  obtain ⟨zs, z1, z2, z3⟩ := h.lq
  rw [List.append_nil] at z1
  have z4 := h51 zs z1
  have hno : ∀ x, x ∈ blk (.slice (ko g2 kd.len) 0 kd.len) → x ∉ [f.g, f.b] := fun x hx => by
    have := (hn2 x hx).1
    simp
    exact ⟨fun e => this (by rw [e]; exact hgL), fun e => this (by rw [e]; exact hfb)⟩
  have pm : (live ⟨f.g, f.n * 6, lb, g2, 0, kd.len, .nil, kd⟩ ({ f with n := f.n + 1, done := f.done, rest := rs } :: r) K).Perm (blk (.slice (ko g2 kd.len) 0 kd.len) ++ live f r K) := by
    unfold live
    rw [show bot (⟨f.g, f.n * 6, lb, g2, 0, kd.len, .nil, kd⟩ : Fq) ({ f with n := f.n + 1, done := f.done, rest := rs } :: r) = bot f r from bot_done f r _ _ _]
    have e1 : opn (⟨f.g, f.n * 6, lb, g2, 0, kd.len, .nil, kd⟩ :: { f with n := f.n + 1, done := f.done, rest := rs } :: r) = blk (.slice (ko g2 kd.len) 0 kd.len) ++ opn (f :: r) := by
      have e0 : ∀ (a : Option Addr) (n m c : Nat), blk (.slice a n c) = blk (.slice a m c) := fun a n m c => by cases a <;> rfl
      simp only [opn, Fq.sl]
      rw [e0 _ (f.n + 1) f.n]
    rw [e1, List.append_assoc]
    exact (List.perm_middle).symm
  refine ⟨⟨[], (ho.keep h53 hno).keep k6 (fun x hx => (hn2 x hx).2.2.1), rfl, by simp⟩, ⟨rfl, by simp, by simp, ha, ⟨zs, ?_, z2.keep hsK, ?_⟩, ?_⟩, ?_, pm.nodup_iff.2 ?_, fun x hx => ?_, fun x hx => ?_, fun x hx => ?_⟩
  · exact z4.keep k6 (fun x hx => by
      have e : x = f.g := by
        unfold ko at hx
        rw [if_neg (by omega)] at hx
        simpa [blk] using hx
      rw [e]; exact (h.ap _ hgL).1)
  · show f.n + 1 + rs.len = f.c
    omega
  · exact h52.keep k6 hsK5 (fun x hx => (h.ap x (live_opn (by simp [opn, hx]))).1) (by rw [bot_done]; exact (h.ap _ live_bot).1)
  · rw [ptC_cons, ptC_done]
    exact hp
  · rw [List.nodup_append]
    refine ⟨?_, h.nd, fun x hx y hy e => (hn2 x hx).1 (by rw [e]; exact hy)⟩
    unfold ko
    split <;> simp [blk]
  · rcases List.mem_append.1 (pm.mem_iff.1 hx) with e | e
    · have := ho.lt x e
      exact ⟨(hn2 x e).2.1, by omega⟩
    · have := h.new x e
      exact ⟨this.1, by omega⟩
  · have key : ∀ y, y < w2.heap.size → y ∉ P :: blk pv → y ∉ P :: blk pv' := fun y hy hny hy' => by
      rcases List.mem_cons.1 hy' with e | e
      · exact hny (by simp [e])
      · rcases hb y e with e | e
        · exact hny (by simp [e])
        · omega
    rcases List.mem_append.1 (pm.mem_iff.1 hx) with e | e
    · exact ⟨key x (ho.lt x e) (hn2 x e).2.2.1, (hn2 x e).2.2.2⟩
    · exact ⟨key x (h.new x e).2 (h.ap x e).1, (h.ap x e).2⟩
  · rcases List.mem_cons.1 hx with e | e
    · have := h.pw x (by simp [e])
      exact ⟨this.1, by omega, this.2.2⟩
    · rcases hb x e with e' | e'
      · have := h.pw x (by simp [e'])
        exact ⟨this.1, by omega, this.2.2⟩
      · have h7 := hp.2.1.lt x e
        have h8 := h.pw P (by simp)
        refine ⟨by omega, h7, fun ho' => ?_⟩
        have := hown x ho'
        omega

end Go.Proofs.Ytgnbafgglkncmaa
