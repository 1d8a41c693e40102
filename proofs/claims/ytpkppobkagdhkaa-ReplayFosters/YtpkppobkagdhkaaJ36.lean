/-
  Joined: PrM.
-/
import Derived.Test.YtpkppobkagdhkaaJ33
import Derived.Test.YtpkppobkagdhkaaJ34
import Derived.Test.YtpkppobkagdhkaaJ35

/-
  The program's arena: Pure under way, its pile.
-/
namespace Go.Proofs.Ytpkppobkagdhkaa
open Go.RowKit Go.Maps Utf
set_option linter.unusedVariables false
set_option linter.unusedSimpArgs false

namespace Ar
/-- Those that have their cells once the nodes of D have their kids. -/
def Mof (A : Ar) (x0 : Nat) (D : List Nat) (x : Nat) : Prop := x = x0 ∨ ∃ p, p ∈ D ∧ A.up x = some p
def Kof (A : Ar) (D : List Nat) (x : Nat) : Bool := decide (x ∈ D ∧ A.kids x ≠ [])

/-- D is done, L is still to be done. -/
structure Pw (A : Ar) (x0 : Nat) (D L : List Nat) : Prop where
  dn : D.Nodup
  dw : ∀ x, x ∈ D → A.Mof x0 D x ∧ A.Wn x x0 ∧ x < A.n
  ln : L.Nodup
  lw : ∀ x, x ∈ L → A.Mof x0 D x ∧ x ∉ D ∧ A.Wn x x0 ∧ x < A.n
  al : ∀ x, A.Mof x0 D x → x ∈ D ∨ x ∈ L

theorem Pw.start {A : Ar} {x0 : Nat} (h : x0 < A.n) : A.Pw x0 [] [x0] :=
  ⟨List.nodup_nil, fun x hx => (by cases hx), by simp, fun x hx => by rw [List.mem_singleton.1 hx]; exact ⟨.inl rfl, (fun h => by cases h), Wn.refl A x0, h⟩, fun x hx => by
    rcases hx with rfl | ⟨p, hp, _⟩
    · exact .inr (by simp)
    · cases hp⟩

theorem Mof_cons (A : Ar) (ok : A.Ok) (x0 y : Nat) (D : List Nat) (x : Nat) : A.Mof x0 (y :: D) x ↔ A.Mof x0 D x ∨ x ∈ A.kids y := by
  unfold Mof
  constructor
  · rintro (h | ⟨p, hp, hu⟩)
    · exact .inl (.inl h)
    · rcases List.mem_cons.1 hp with rfl | hp
      · exact .inr ((ok.link p x).2 hu)
      · exact .inl (.inr ⟨p, hp, hu⟩)
  · rintro ((h | ⟨p, hp, hu⟩) | h)
    · exact .inl h
    · exact .inr ⟨p, List.mem_cons_of_mem _ hp, hu⟩
    · exact .inr ⟨y, by simp, (ok.link y x).1 h⟩

/-- A kid of one that is still to be done has no cells yet. -/
theorem Pw.kid_no {A : Ar} {x0 : Nat} {D L : List Nat} (h : A.Pw x0 D L) (ok : A.Ok) {y c : Nat} (hy : y ∈ L) (hc : c ∈ A.kids y) : ¬ A.Mof x0 D c ∧ c ≠ x0 ∧ c ∉ D := by
  have hu := (ok.link y c).1 hc
  obtain ⟨_, h2, h3, _⟩ := h.lw y hy
  have hc0 : c ≠ x0 := fun e => ok.not_up hu (e ▸ h3)
  have hM : ¬ A.Mof x0 D c := fun hm => by
    rcases hm with e | ⟨p, hp, hup⟩
    · exact hc0 e
    · rw [hu] at hup
      exact h2 ((Option.some.inj hup) ▸ hp)
  exact ⟨hM, hc0, fun hd => hM (h.dw c hd).1⟩

theorem Pw.step {A : Ar} {x0 : Nat} {D S : List Nat} {y : Nat} (h : A.Pw x0 D (S ++ [y])) (ok : A.Ok) : A.Pw x0 (y :: D) (S ++ A.kids y) := by
  have hyL : y ∈ S ++ [y] := by simp
  obtain ⟨y1, y2, y3, y4⟩ := h.lw y hyL
  have hS : ∀ x, x ∈ S → x ≠ y := fun x hx e => by
    have := h.ln
    rw [List.nodup_append] at this
    exact this.2.2 x hx y (by simp) e
  refine ⟨List.nodup_cons.2 ⟨y2, h.dn⟩, fun x hx => ?_, ?_, fun x hx => ?_, fun x hx => ?_⟩
  · rcases List.mem_cons.1 hx with rfl | hx
    · exact ⟨(Mof_cons A ok x0 _ D _).2 (.inl y1), y3, y4⟩
    · obtain ⟨a, b⟩ := h.dw x hx
      exact ⟨(Mof_cons A ok x0 _ D _).2 (.inl a), b⟩
  · have := h.ln
    rw [List.nodup_append] at this ⊢
    refine ⟨this.1, ok.one y, fun a ha c hc e => ?_⟩
    subst e
    exact (h.kid_no ok hyL hc).1 (h.lw a (by simp [ha])).1
  · rcases List.mem_append.1 hx with hx | hx
    · obtain ⟨a, b, c, d⟩ := h.lw x (by simp [hx])
      exact ⟨(Mof_cons A ok x0 _ D _).2 (.inl a), fun hm => by
        rcases List.mem_cons.1 hm with e | hm
        · exact hS x hx e
        · exact b hm, c, d⟩
    · obtain ⟨a, b, c⟩ := h.kid_no ok hyL hx
      have hu := (ok.link y x).1 hx
      refine ⟨(Mof_cons A ok x0 _ D _).2 (.inr hx), fun hm => ?_, Wn.step hu y3, (ok.lt hu).1⟩
      rcases List.mem_cons.1 hm with e | hm
      · subst e; exact ok.not_up hu (Wn.refl A x)
      · exact c hm
  · rcases (Mof_cons A ok x0 _ D _).1 hx with hx | hx
    · rcases h.al x hx with h1 | h1
      · exact .inl (List.mem_cons_of_mem _ h1)
      · rcases List.mem_append.1 h1 with h1 | h1
        · exact .inr (by simp [h1])
        · exact .inl (by simp [List.mem_singleton.1 h1])
    · exact .inr (by simp [hx])

theorem Pw.lenL {A : Ar} {x0 : Nat} {D L : List Nat} (h : A.Pw x0 D L) : L.length ≤ A.n := pig _ _ h.ln (fun x hx => (h.lw x hx).2.2.2)
theorem Pw.lenDy {A : Ar} {x0 : Nat} {D L : List Nat} {y : Nat} (h : A.Pw x0 D L) (hy : y ∈ L) : D.length < A.n := by
  have := pig A.n (y :: D) (List.nodup_cons.2 ⟨(h.lw y hy).2.1, h.dn⟩) (fun x hx => by
    rcases List.mem_cons.1 hx with rfl | hx
    · exact (h.lw x hy).2.2.2
    · exact (h.dw x hx).2.2)
  simp only [List.length_cons] at this
  omega

theorem Pw.all {A : Ar} {x0 : Nat} {D : List Nat} (h : A.Pw x0 D []) {x : Nat} (hx : A.Wn x x0) : x ∈ D := by
  obtain ⟨k, e⟩ := hx
  induction k generalizing x with
  | zero =>
    obtain rfl : x = x0 := by simpa [anc] using e
    rcases h.al x (.inl rfl) with h1 | h1
    · exact h1
    · cases h1
  | succ k ih =>
    cases hu : A.up x with
    | none => simp [anc, hu] at e
    | some p =>
      have hp := ih (x := p) (by simpa [anc, hu] using e)
      rcases h.al x (.inr ⟨p, hp, hu⟩) with h1 | h1
      · exact h1
      · cases h1
end Ar

/-- The pile's cells. -/
def px (A : Ar) (x0 gT : Nat) (B : Nat → Nat) (S : List Nat) : List Value := S.flatMap (fun x => pcc ⟨A.abk x0 gT B x, A.aof x0 x, none⟩ (x : Int))
theorem px_app (A : Ar) (x0 gT : Nat) (B : Nat → Nat) (S T : List Nat) : px A x0 gT B (S ++ T) = px A x0 gT B S ++ px A x0 gT B T := by unfold px; rw [List.flatMap_append]
theorem px_congr {A : Ar} {x0 gT : Nat} {B B' : Nat → Nat} {S : List Nat} (h : ∀ x, x ∈ S → A.abk x0 gT B' x = A.abk x0 gT B x) : px A x0 gT B' S = px A x0 gT B S := by
  induction S with
  | nil => rfl
  | cons x r ih =>
    unfold px at ih ⊢
    rw [List.flatMap_cons, List.flatMap_cons, ih (fun y hy => h y (List.mem_cons_of_mem _ hy)), h x (by simp)]

/-- Pure under way in memory: the tree, the pile, the result's block; scratch has the mark 0. -/
structure Pm (A : Ar) (w wr : World) (x0 gT s P : Nat) (τ : Nat → Nat) (B : Nat → Nat) (M : Nat → Prop) (K : Nat → Bool) (v : Value) (S : List Nat) : Prop where
  cs : Cs A w wr x0 gT τ B M K
  pk : Pk 2 wr 73 50 P v S.length (px A x0 gT B S)
  pn : ∀ k, k = P ∨ k ∈ blk v → w.heap.size ≤ k ∧ τ k = 0 ∧ k ≠ s
  rs : At wr s #[.int .i64 0, .int .i64 0, .string ⟨#[]⟩, .slice none 0 0, .string ⟨#[]⟩, .slice none 0 0] 33
  rn : w.heap.size ≤ s ∧ τ s = 0

theorem Pk.lt {K : Nat} {w : World} {T e : TypeId} {p : Nat} {v : Value} {n : Nat} {xs : List Value} (h : Pk K w T e p v n xs) : ∀ k, k = p ∨ k ∈ blk v → k < w.heap.size := fun k hk => by
  rcases hk with rfl | hk
  · exact lt_of h.1
  · exact h.2.1.lt k hk

section
variable {A : Ar} {w wr : World} {x0 gT s P : Nat} {τ : Nat → Nat} {B : Nat → Nat} {M : Nat → Prop} {K : Nat → Bool} {v : Value} {S : List Nat}

/-- Blocks that are none of these, or new ones, have turned. -/
theorem Pm.keep {D : List Nat} {w2 : World} {τ' : Nat → Nat} (h : Pm A w wr x0 gT s P τ B M K v S) (k : Kp D wr w2) (hD : ∀ x, x ∈ D → w.heap.size ≤ x ∧ (x < wr.heap.size → τ x ≠ 1 ∧ τ x ≠ 2 ∧ x ≠ P ∧ x ∉ blk v ∧ x ≠ s)) (ht : ∀ x, x < wr.heap.size → τ' x = τ x) : Pm A w w2 x0 gT s P τ' B M K v S := by
  have hp := h.pk.lt
  refine ⟨h.cs.keep k (fun x hx => ⟨(hD x hx).1, fun hl => ⟨((hD x hx).2 hl).1, ((hD x hx).2 hl).2.1⟩⟩) ht, h.pk.keep k (fun hx => ((hD P hx).2 (hp P (.inl rfl))).2.2.1 rfl) (fun x hx hs => ((hD x hs).2 (hp x (.inr hx))).2.2.2.1 hx), fun x hx => ?_, h.rs.kept k (fun hx => ((hD s hx).2 h.rs.lt).2.2.2.2 rfl), h.rn.1, by rw [ht s h.rs.lt]; exact h.rn.2⟩
  obtain ⟨a, b, c⟩ := h.pn x hx
  exact ⟨a, by rw [ht x (hp x hx)]; exact b, c⟩

theorem Pm.kept {w2 : World} (h : Pm A w wr x0 gT s P τ B M K v S) (k : Kp [] wr w2) : Pm A w w2 x0 gT s P τ B M K v S := h.keep k (fun x hx => by simp at hx) (fun _ _ => rfl)

/-- The pile has turned. -/
theorem Pm.pile {w2 : World} {S' : List Nat} {n' : Nat} (h : Pm A w wr x0 gT s P τ B M K v S) (t : Tk 2 wr w2 73 50 P v n' (px A x0 gT B S')) (hn : n' = S'.length) : ∃ v' τ', Pm A w w2 x0 gT s P τ' B M K v' S' ∧ (∀ x, x < wr.heap.size → τ' x = τ x) ∧ Kp (P :: blk v) wr w2 ∧ ∀ k, k ∈ blk v' → k ∈ blk v ∨ wr.heap.size ≤ k := by
  subst hn
  obtain ⟨v', t1, t2, t3⟩ := t
  obtain ⟨T, hT⟩ : ∃ T : Nat → Nat, T = fun b => if b < wr.heap.size then τ b else 0 := ⟨_, rfl⟩
  have T0 : ∀ x, x < wr.heap.size → T x = τ x := fun x hx => by rw [hT]; simp only [if_pos hx]
  have hin : ∀ x, x ∈ P :: blk v → x = P ∨ x ∈ blk v := fun x hx => List.mem_cons.1 hx
  have hkw := h.cs.kp.size
  refine ⟨v', T, ⟨h.cs.keep t2 (fun x hx => ⟨(h.pn x (hin x hx)).1, fun _ => by have := (h.pn x (hin x hx)).2.1; omega⟩) T0, t1, fun x hx => ?_, h.rs.kept t2 (fun hx => (h.pn s (hin s hx)).2.2 rfl), h.rn.1, by rw [T0 s h.rs.lt]; exact h.rn.2⟩, T0, t2, t3⟩
  have hs := h.rs.lt
  rcases hx with rfl | hx
  · obtain ⟨a, b, c⟩ := h.pn x (.inl rfl)
    exact ⟨a, by rw [T0 x (h.pk.lt x (.inl rfl))]; exact b, c⟩
  · rcases t3 x hx with h1 | h1
    · obtain ⟨a, b, c⟩ := h.pn x (.inr h1)
      exact ⟨a, by rw [T0 x (h.pk.lt x (.inr h1))]; exact b, c⟩
    · exact ⟨by omega, by rw [hT]; simp only [if_neg (show ¬ x < wr.heap.size by omega)], by omega⟩

/-- A block beside all that. -/
def Ex (w wr : World) (s P : Nat) (τ : Nat → Nat) (v : Value) (b : Nat) : Prop := w.heap.size ≤ b ∧ b < wr.heap.size ∧ τ b = 0 ∧ b ≠ P ∧ b ∉ blk v ∧ b ≠ s

theorem Ex.step {w wr w2 : World} {s P : Nat} {τ τ' : Nat → Nat} {v v' : Value} {b : Nat} (h : Ex w wr s P τ v b) (hs : wr.heap.size ≤ w2.heap.size) (ht : ∀ x, x < wr.heap.size → τ' x = τ x) (hv : ∀ k, k ∈ blk v' → k ∈ blk v ∨ wr.heap.size ≤ k) : Ex w w2 s P τ' v' b := by
  obtain ⟨h1, h2, h3, h4, h5, h6⟩ := h
  refine ⟨h1, Nat.lt_of_lt_of_le h2 hs, by rw [ht b h2]; exact h3, h4, fun hx => ?_, h6⟩
  rcases hv b hx with h7 | h7
  · exact h5 h7
  · omega

/-- The loop of Pure. -/
def RPure (A : Ar) (w : World) (x0 gT s P : Nat) (a : Value × Value × World) (n : Nat) : Prop :=
  ∃ (gA : Nat) (D S cu : List Nat) (τ B : Nat → Nat) (v c0 c1 : Value), a.1 = .pointer (some ⟨gA, 0, none⟩) ∧ a.2.1 = .bool (decide (cu ≠ [])) ∧ A.n - D.length = n ∧ Pm A w a.2.2 x0 gT s P τ B (A.Mof x0 D) (A.Kof D) v S ∧ A.Pw x0 D (S ++ cu) ∧ cu.length ≤ 1 ∧ Ex w a.2.2 s P τ v gA ∧ At a.2.2 gA #[c0, c1] 50 ∧ (∀ y, y ∈ cu → c0 = .int .i64 (y : Int) ∧ c1 = .pointer (some ⟨A.abk x0 gT B y, A.aof x0 y, none⟩)) ∧ (cu = [] → S = [])

theorem tail_none {D : List Nat} (pm : Pm A w wr x0 gT s P τ B (A.Mof x0 D) (A.Kof D) v []) (pw : A.Pw x0 D []) (c0 c1 : Value) {w2 : World} (k : Kp [] (wr.alloc (.cells #[c0, c1] 50)) w2) :
    RPure A w x0 gT s P (.pointer (some ⟨wr.heap.size, 0, none⟩), .bool false, (w2.setCell ⟨wr.heap.size, 0, none⟩ (.int .i64 0)).setCell ⟨wr.heap.size, 1, none⟩ (.pointer none)) (A.n - D.length) := by
  have ka : Kp [] wr (wr.alloc (.cells #[c0, c1] 50)) := (Kp.refl _ _).alloc _
  have A2 : At w2 wr.heap.size #[c0, c1] 50 := (At.new wr _ _).kept k (by simp)
  have k3 : Kp [wr.heap.size] w2 ((w2.setCell ⟨wr.heap.size, 0, none⟩ (.int .i64 0)).setCell ⟨wr.heap.size, 1, none⟩ (.pointer none)) := ((Kp.refl _ _).setCell (Or.inl (by simp)) _).setCell (Or.inl (by simp)) _
  have kk : Kp [wr.heap.size] wr _ := ((ka.trans k (fun x hx => Or.inl hx)).mono (T := [wr.heap.size]) (fun x hx => by simp at hx)).trans k3 (fun x hx => Or.inl hx)
  have hkw := pm.cs.kp.size
  obtain ⟨T, hT⟩ : ∃ T : Nat → Nat, T = fun b => if b < wr.heap.size then τ b else 0 := ⟨_, rfl⟩
  have T0 : ∀ x, x < wr.heap.size → T x = τ x := fun x hx => by rw [hT]; simp only [if_pos hx]
  have hpl := pm.pk.lt
  have hsl := pm.rs.lt
  refine ⟨wr.heap.size, D, [], [], T, B, v, _, _, rfl, rfl, rfl, pm.keep kk (fun x hx => by rw [List.mem_singleton.1 hx]; exact ⟨hkw, fun hl => absurd hl (Nat.lt_irrefl _)⟩) T0, pw, Nat.zero_le _, ⟨hkw, ((A2.set 0 _).set 1 _).lt, by rw [hT]; simp only [if_neg (Nat.lt_irrefl _)], fun e => by have := hpl P (.inl rfl); omega, fun hx => by have := hpl _ (.inr hx); omega, fun e => by omega⟩, (A2.set 0 _).set 1 _, fun y hy => (by cases hy), fun _ => rfl⟩

theorem tail_some {D S2 : List Nat} {y : Nat} (pm : Pm A w wr x0 gT s P τ B (A.Mof x0 D) (A.Kof D) v (S2 ++ [y])) (pw : A.Pw x0 D (S2 ++ [y])) (c0 c1 : Value) {w2 : World} (t : Tk 2 (wr.alloc (.cells #[c0, c1] 50)) w2 73 50 P v S2.length (px A x0 gT B S2)) :
    RPure A w x0 gT s P (.pointer (some ⟨wr.heap.size, 0, none⟩), .bool true, (w2.setCell ⟨wr.heap.size, 0, none⟩ (.int .i64 (y : Int))).setCell ⟨wr.heap.size, 1, none⟩ (.pointer (some ⟨A.abk x0 gT B y, A.aof x0 y, none⟩))) (A.n - D.length) := by
  have ka : Kp [] wr (wr.alloc (.cells #[c0, c1] 50)) := (Kp.refl _ _).alloc _
  have hpl := pm.pk.lt
  have hsl := pm.rs.lt
  have hkw := pm.cs.kp.size
  obtain ⟨T1, hT1⟩ : ∃ T : Nat → Nat, T = fun b => if b < wr.heap.size then τ b else 0 := ⟨_, rfl⟩
  have T01 : ∀ x, x < wr.heap.size → T1 x = τ x := fun x hx => by rw [hT1]; simp only [if_pos hx]
  have pm1 : Pm A w (wr.alloc (.cells #[c0, c1] 50)) x0 gT s P T1 B (A.Mof x0 D) (A.Kof D) v (S2 ++ [y]) := pm.keep ka (fun x hx => by simp at hx) T01
  obtain ⟨v', τ', pm2, T2, k2, b2⟩ := pm1.pile t rfl
  have hnP : wr.heap.size ∉ P :: blk v := fun hx => by
    have := hpl _ (List.mem_cons.1 hx)
    omega
  have A2 : At w2 wr.heap.size #[c0, c1] 50 := (At.new wr _ _).kept k2 hnP
  have hex : Ex w (wr.alloc (.cells #[c0, c1] 50)) s P T1 v wr.heap.size := ⟨hkw, by simp, by rw [hT1]; simp only [if_neg (Nat.lt_irrefl _)], fun e => by have := hpl P (.inl rfl); omega, fun hx => by have := hpl _ (.inr hx); omega, fun e => by omega⟩
  have hex2 := hex.step (w2 := w2) (τ' := τ') (v' := v') k2.size T2 b2
  have k3 : Kp [wr.heap.size] w2 ((w2.setCell ⟨wr.heap.size, 0, none⟩ (.int .i64 (y : Int))).setCell ⟨wr.heap.size, 1, none⟩ (.pointer (some ⟨A.abk x0 gT B y, A.aof x0 y, none⟩))) := ((Kp.refl _ _).setCell (Or.inl (by simp)) _).setCell (Or.inl (by simp)) _
  have pm3 := pm2.keep (τ' := τ') k3 (fun x hx => by rw [List.mem_singleton.1 hx]; exact ⟨hkw, fun _ => ⟨by rw [hex2.2.2.1]; omega, by rw [hex2.2.2.1]; omega, hex2.2.2.2.1, hex2.2.2.2.2.1, hex2.2.2.2.2.2⟩⟩) (fun _ _ => rfl)
  refine ⟨wr.heap.size, D, S2, [y], τ', B, v', _, _, rfl, rfl, rfl, pm3, pw, by simp, hex2.step k3.size (fun _ _ => rfl) (fun k hk => .inl hk), (A2.set 0 _).set 1 _, fun z hz => by rw [List.mem_singleton.1 hz]; exact ⟨rfl, rfl⟩, fun e => by cases e⟩

end

end Go.Proofs.Ytpkppobkagdhkaa
