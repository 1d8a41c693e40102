/-
  Joined: Puz.
-/
import Derived.Test.YtpkppobkagdhkaaJ20

/-
  A tree that is told of an arena, under way: which nodes have their cells already, which their kids: no program.
-/
namespace Go.Proofs.Ytpkppobkagdhkaa
open Go.RowKit Go.Maps Utf
set_option linter.unusedVariables false
set_option linter.unusedSimpArgs false

namespace Ar
def par (A : Ar) (x : Nat) : Nat := (A.up x).getD 0
theorem par_eq {A : Ar} {x p : Nat} (h : A.up x = some p) : A.par x = p := by unfold par; rw [h]; rfl
/-- In which block a node's cells lie, and where there. -/
def abk (A : Ar) (x0 gT : Nat) (B : Nat → Nat) (x : Nat) : Nat := if x = x0 then gT else B (A.par x)
def aof (A : Ar) (x0 x : Nat) : Nat := if x = x0 then 0 else A.place (A.par x) x * 6
/-- Where its kids lie. -/
def kdV (A : Ar) (B : Nat → Nat) (K : Nat → Bool) (x : Nat) : Option Addr × Nat × Nat := if K x = true then (some ⟨B x, 0, none⟩, (A.kids x).length, (A.kids x).length) else (none, 0, 0)

theorem place_at {A : Ar} (ok : A.Ok) {p j : Nat} (hj : j < (A.kids p).length) : A.place p (A.kids p)[j] = j := by
  unfold place
  exact (ok.one p).idxOf_getElem j hj

theorem place_lt {A : Ar} (ok : A.Ok) {p x : Nat} (hu : A.up x = some p) : A.place p x < (A.kids p).length ∧ (A.kids p)[A.place p x]? = some x := by
  have hm := (ok.link p x).2 hu
  have hl : A.place p x < (A.kids p).length := List.idxOf_lt_length_of_mem hm
  refine ⟨hl, ?_⟩
  rw [List.getElem?_eq_getElem hl]
  congr 1
  exact List.getElem_idxOf hl
end Ar

structure Cs (A : Ar) (w wr : World) (x0 gT : Nat) (τ : Nat → Nat) (B : Nat → Nat) (M : Nat → Prop) (K : Nat → Bool) : Prop where
  kp : Kp [] w wr
  top : ∃ cur, At wr gT cur 33 ∧ 6 ≤ cur.size
  topN : w.heap.size ≤ gT ∧ τ gT = 2
  bks : ∀ p, K p = true → (∃ cur, At wr (B p) cur 33 ∧ (A.kids p).length * 6 = cur.size) ∧ w.heap.size ≤ B p ∧ τ (B p) = 2 ∧ B p ≠ gT
  inj : ∀ p p', K p = true → K p' = true → B p = B p' → p = p'
  mkd : ∀ x, M x → x ≠ x0 → ∃ p, A.up x = some p ∧ K p = true
  mx : M x0
  cl : ∀ x, M x → ∃ pa : Option Addr × Nat × Nat, Cl wr (A.abk x0 gT B x) (A.aof x0 x) (A.lb x) (pa, A.kdV B K x) ∧ Rk (fun b => w.heap.size ≤ b ∧ τ b = 1) 2 wr pa.1 pa.2.1 pa.2.2 (cs (A.lb x).attrs)

section
variable {A : Ar} {w wr : World} {x0 gT : Nat} {τ : Nat → Nat} {B : Nat → Nat} {M : Nat → Prop} {K : Nat → Bool}

theorem Cs.blk2 (h : Cs A w wr x0 gT τ B M K) {x : Nat} (hx : M x) : τ (A.abk x0 gT B x) = 2 ∧ w.heap.size ≤ A.abk x0 gT B x ∧ A.abk x0 gT B x < wr.heap.size := by
  obtain ⟨cur, h1, _⟩ := h.top
  unfold Ar.abk
  by_cases e : x = x0
  · rw [if_pos e]; exact ⟨h.topN.2, h.topN.1, h1.lt⟩
  · rw [if_neg e]
    obtain ⟨p, hu, hk⟩ := h.mkd x hx e
    rw [Ar.par_eq hu]
    obtain ⟨⟨cur, h2, _⟩, h3, h4, _⟩ := h.bks p hk
    exact ⟨h4, h3, h2.lt⟩

/-- Two nodes' cells lie apart. -/
theorem Cs.sep (h : Cs A w wr x0 gT τ B M K) (ok : A.Ok) {x y : Nat} (hx : M x) (hy : M y) (hne : x ≠ y) : A.abk x0 gT B x ≠ A.abk x0 gT B y ∨ A.aof x0 x + 6 ≤ A.aof x0 y ∨ A.aof x0 y + 6 ≤ A.aof x0 x := by
  unfold Ar.abk Ar.aof
  by_cases e : x = x0
  · have e2 : y ≠ x0 := fun e3 => hne (e.trans e3.symm)
    obtain ⟨p, hu, hk⟩ := h.mkd y hy e2
    rw [if_pos e, if_neg e2, Ar.par_eq hu]
    exact .inl (Ne.symm (h.bks p hk).2.2.2)
  · obtain ⟨p, hu, hk⟩ := h.mkd x hx e
    rw [if_neg e, Ar.par_eq hu]
    by_cases e2 : y = x0
    · rw [if_pos e2]
      exact .inl (h.bks p hk).2.2.2
    · obtain ⟨p', hu', hk'⟩ := h.mkd y hy e2
      rw [if_neg e2, Ar.par_eq hu', if_neg e, if_neg e2]
      by_cases e3 : B p = B p'
      · obtain rfl := h.inj p p' hk hk' e3
        refine .inr ?_
        obtain ⟨_, h1⟩ := Ar.place_lt ok hu
        obtain ⟨_, h2⟩ := Ar.place_lt ok hu'
        have : A.place p x ≠ A.place p y := fun e4 => by
          rw [e4, h2] at h1
          exact hne (Option.some.inj h1).symm
        omega
      · exact .inl e3

theorem Cl.of_block {w w' : World} {b off : Nat} {l : Lb} {p : Pl} (h : Cl w b off l p) (e : w'.heap[b]? = w.heap[b]?) : Cl w' b off l p := by
  obtain ⟨cur, t, h1, h2⟩ := h
  exact ⟨cur, t, by rw [e]; exact h1, h2⟩

/-- A cell that is not the node's is written. -/
theorem Cl.other {w : World} {b off b2 j : Nat} {l : Lb} {p : Pl} (h : Cl w b off l p) (u : Value) (hd : b ≠ b2 ∨ j < off ∨ off + 6 ≤ j) : Cl (w.setCell ⟨b2, j, none⟩ u) b off l p := by
  obtain ⟨cur, t, h1, h2⟩ := h
  by_cases e : b = b2
  · subst e
    refine ⟨_, t, setCell_block h1 j u, fun i hi => ?_⟩
    rw [Array.getElem?_setIfInBounds, if_neg (by omega)]
    exact h2 i hi
  · exact ⟨cur, t, by rw [Below.heap_setCell _ _ _ _ (fun e2 => e (by simpa using e2))]; exact h1, h2⟩

theorem Cs.keep {S : List Nat} {w2 : World} {τ' : Nat → Nat} (h : Cs A w wr x0 gT τ B M K) (k : Kp S wr w2) (hS : ∀ x, x ∈ S → w.heap.size ≤ x ∧ (x < wr.heap.size → τ x ≠ 1 ∧ τ x ≠ 2)) (ht : ∀ x, x < wr.heap.size → τ' x = τ x) : Cs A w w2 x0 gT τ' B M K := by
  obtain ⟨cur0, t0, t1⟩ := h.top
  have hT := t0.lt
  have no2 : ∀ x, x < wr.heap.size → τ x = 2 → x ∉ S := fun x h1 h2 hs => ((hS x hs).2 h1).2 h2
  refine ⟨h.kp.trans k (fun x hx => Or.inr (hS x hx).1), ⟨cur0, t0.kept k (no2 gT hT h.topN.2), t1⟩, ⟨h.topN.1, by rw [ht gT hT]; exact h.topN.2⟩, fun p hp => ?_, h.inj, h.mkd, h.mx, fun x hx => ?_⟩
  · obtain ⟨⟨cur, h1, h2⟩, h3, h4, h5⟩ := h.bks p hp
    exact ⟨⟨cur, h1.kept k (no2 _ h1.lt h4), h2⟩, h3, by rw [ht _ h1.lt]; exact h4, h5⟩
  · obtain ⟨pa, h1, h2⟩ := h.cl x hx
    obtain ⟨b1, b2, b3⟩ := h.blk2 hx
    refine ⟨pa, h1.of_block (k.block _ b3 (no2 _ b3 b1)), ?_⟩
    refine ⟨h2.len, h2.cap, fun hn => ?_⟩
    obtain ⟨b, off, cur, e, hq, e1, e2, e3⟩ := h2.at' hn
    have hl := lt_of e2
    exact ⟨b, off, cur, e, ⟨hq.1, by rw [ht b hl]; exact hq.2⟩, e1, by rw [k.block b hl (fun hs => ((hS b hs).2 hl).1 hq.2)]; exact e2, e3⟩

theorem Cs.congr {M' : Nat → Prop} {K' : Nat → Bool} (h : Cs A w wr x0 gT τ B M K) (hM : ∀ x, M' x ↔ M x) (hK : ∀ x, K' x = K x) : Cs A w wr x0 gT τ B M' K' := by
  obtain rfl : M' = M := funext fun x => propext (hM x)
  obtain rfl : K' = K := funext hK
  exact h

/-- The cell of a node's kids. -/
theorem Cs.kidCell (h : Cs A w wr x0 gT τ B M K) {y : Nat} (hy : M y) : wr.cell? ⟨A.abk x0 gT B y, A.aof x0 y + 5, none⟩ = some (.slice (A.kdV B K y).1 (A.kdV B K y).2.1 (A.kdV B K y).2.2) ∧ wr.frozen? ⟨A.abk x0 gT B y, A.aof x0 y + 5, none⟩ = false := by
  obtain ⟨pa, h1, _⟩ := h.cl y hy
  refine ⟨h1.cells.2.2.2.2.2, ?_⟩
  obtain ⟨cur, t, h2, _⟩ := h1
  exact frozen_of h2 _

/-- A node gets room for its kids. -/
theorem Cs.kids {w1 : World} {cur : Array Value} (h : Cs A w wr x0 gT τ B M K) (ok : A.Ok) {y gK : Nat} (hy : M y) (hk : K y = false) (hg : wr.heap.size ≤ gK) (k : Kp [] wr w1) (hc : At w1 gK cur 33) (hsz : (A.kids y).length * 6 = cur.size) :
    Cs A w (w1.setCell ⟨A.abk x0 gT B y, A.aof x0 y + 5, none⟩ (.slice (some ⟨gK, 0, none⟩) (A.kids y).length (A.kids y).length)) x0 gT (fun b => if b < wr.heap.size then τ b else if b = gK then 2 else 0) (fun p => if p = y then gK else B p) M (fun p => if p = y then true else K p) := by
  obtain ⟨T, hT⟩ : ∃ T : Nat → Nat, T = fun b => if b < wr.heap.size then τ b else if b = gK then 2 else 0 := ⟨_, rfl⟩
  have T0 : ∀ x, x < wr.heap.size → T x = τ x := fun x hx => by rw [hT]; simp only [if_pos hx]
  have hw1 : Cs A w w1 x0 gT T B M K := h.keep k (fun x hx => by simp at hx) T0
  rw [← hT]
  obtain ⟨y1, y2, y3⟩ := h.blk2 hy
  have hyg : A.abk x0 gT B y ≠ gK := by omega
  have k5 : Kp [A.abk x0 gT B y] w1 (w1.setCell ⟨A.abk x0 gT B y, A.aof x0 y + 5, none⟩ (.slice (some ⟨gK, 0, none⟩) (A.kids y).length (A.kids y).length)) := (Kp.refl _ _).setCell (Or.inl (by simp)) _
  have hab : ∀ x, M x → A.abk x0 gT (fun p => if p = y then gK else B p) x = A.abk x0 gT B x := fun x hx => by
    unfold Ar.abk
    by_cases e : x = x0
    · rw [if_pos e, if_pos e]
    · obtain ⟨p, hu, hkp⟩ := h.mkd x hx e
      rw [if_neg e, if_neg e, Ar.par_eq hu]
      exact if_neg (fun e2 => by rw [e2, hk] at hkp; cases hkp)
  have hbl : ∀ (g : Nat) (cu : Array Value), At w1 g cu 33 → ∃ cu', At (w1.setCell ⟨A.abk x0 gT B y, A.aof x0 y + 5, none⟩ (.slice (some ⟨gK, 0, none⟩) (A.kids y).length (A.kids y).length)) g cu' 33 ∧ cu'.size = cu.size := fun g cu hg => by
    by_cases e : g = A.abk x0 gT B y
    · subst e; exact ⟨_, hg.set _ _, by simp⟩
    · exact ⟨cu, hg.kept k5 (by simpa using e), rfl⟩
  refine ⟨hw1.kp.trans k5 (fun x hx => Or.inr (by rw [List.mem_singleton.1 hx]; exact y2)), ?_, hw1.topN, fun p hp => ?_, fun p p' hp hp' e => ?_, fun x hx e => ?_, h.mx, fun x hx => ?_⟩
  · obtain ⟨cu, t1, t2⟩ := hw1.top
    obtain ⟨cu', u1, u2⟩ := hbl gT cu t1
    exact ⟨cu', u1, by omega⟩
  · by_cases e : p = y
    · subst e
      simp only [if_pos]
      obtain ⟨cu', u1, u2⟩ := hbl gK cur hc
      have hgt := (h.top.choose_spec.1).lt
      exact ⟨⟨cu', u1, by omega⟩, by have := h.kp.size; omega, by rw [hT]; simp only [if_neg (show ¬ gK < wr.heap.size by omega), if_pos], by omega⟩
    · simp only [if_neg e] at hp ⊢
      obtain ⟨⟨cu, t1, t2⟩, t3, t4, t5⟩ := hw1.bks p hp
      obtain ⟨cu', u1, u2⟩ := hbl (B p) cu t1
      exact ⟨⟨cu', u1, by omega⟩, t3, t4, t5⟩
  · by_cases e1 : p = y
    · by_cases e2 : p' = y
      · rw [e1, e2]
      · simp only [if_pos e1, if_neg e2] at e hp'
        have := (h.bks p' hp').1.choose_spec.1.lt
        omega
    · by_cases e2 : p' = y
      · simp only [if_neg e1, if_pos e2] at e hp
        have := (h.bks p hp).1.choose_spec.1.lt
        omega
      · simp only [if_neg e1, if_neg e2] at e hp hp'
        exact h.inj p p' hp hp' e
  · obtain ⟨p, hu, hkp⟩ := h.mkd x hx e
    exact ⟨p, hu, by by_cases e1 : p = y <;> simp [e1]; exact hkp⟩
  · obtain ⟨pa, c1, c2⟩ := hw1.cl x hx
    refine ⟨pa, ?_, c2.keep (fun z hz hzl => k5.block z hzl (fun hs => by
      rw [List.mem_singleton.1 hs] at hz
      have := hz.2
      rw [T0 _ y3, y1] at this
      cases this))⟩
    rw [hab x hx]
    by_cases e : x = y
    · subst e
      obtain ⟨cu, t, t1, t2⟩ := c1
      refine ⟨_, t, setCell_block t1 _ _, fun i hi => ?_⟩
      rw [Array.getElem?_setIfInBounds]
      have e5 : A.kdV (fun p => if p = x then gK else B p) (fun p => if p = x then true else K p) x = (some ⟨gK, 0, none⟩, (A.kids x).length, (A.kids x).length) := by unfold Ar.kdV; simp
      rw [e5]
      by_cases hi5 : i = 5
      · subst hi5
        have h5 := t2 5 (by omega)
        have hlt : A.aof x0 x + 5 < cu.size := by
          have : (cu[A.aof x0 x + 5]?).isSome = true := by rw [h5]; rfl
          simpa using this
        rw [if_pos rfl, if_pos hlt]
        rfl
      · rw [if_neg (by omega), t2 i hi]
        unfold six
        obtain rfl | rfl | rfl | rfl | rfl : i = 0 ∨ i = 1 ∨ i = 2 ∨ i = 3 ∨ i = 4 := by omega
        all_goals rfl
    · have e5 : A.kdV (fun p => if p = y then gK else B p) (fun p => if p = y then true else K p) x = A.kdV B K x := by unfold Ar.kdV; simp [e]
      rw [e5]
      refine c1.other _ ?_
      rcases h.sep ok hx hy e with s1 | s1 | s1
      · exact .inl s1
      · exact .inr (.inr (by omega))
      · exact .inr (.inl (by omega))

theorem kp_put6 {g : Nat} {a w : World} (h : Kp [g] a w) (o : Nat) (v0 v1 v2 v3 v4 v5 : Value) : Kp [g] a (put6 w g o v0 v1 v2 v3 v4 v5) := h.put6 (Or.inl (by simp)) _ _ _ _ _ _ _

/-- A kid's cells are written. -/
theorem Cs.kid {V : World} {pa : Option Addr × Nat × Nat} (h : Cs A w wr x0 gT τ B M K) (ok : A.Ok) {y j c : Nat} (hk : K y = true) (hj : j < (A.kids y).length) (hc : (A.kids y)[j] = c) (hcM : ¬ M c) (hcK : K c = false) (hc0 : c ≠ x0) (k : Kp [] wr V) (hat : Rk (fun b => wr.heap.size ≤ b) 2 V pa.1 pa.2.1 pa.2.2 (cs (A.lb c).attrs)) :
    Cs A w (put6 V (B y) (j * 6) (.int .i64 (A.lb c).kind) (.int .i64 (A.lb c).ns) (.string (A.lb c).name) (.slice pa.1 pa.2.1 pa.2.2) (.string (A.lb c).text) (.slice none 0 0)) x0 gT (fun b => if b < wr.heap.size then τ b else 1) B (fun x => M x ∨ x = c) K := by
  obtain ⟨T, hT⟩ : ∃ T : Nat → Nat, T = fun b => if b < wr.heap.size then τ b else 1 := ⟨_, rfl⟩
  have T0 : ∀ x, x < wr.heap.size → T x = τ x := fun x hx => by rw [hT]; simp only [if_pos hx]
  have hw1 : Cs A w V x0 gT T B M K := h.keep k (fun x hx => by simp at hx) T0
  rw [← hT]
  have huc : A.up c = some y := (ok.link y c).1 (by rw [← hc]; exact List.getElem_mem hj)
  have hplace : A.place y c = j := by rw [← hc]; exact Ar.place_at ok hj
  have habc : A.abk x0 gT B c = B y := by unfold Ar.abk; rw [if_neg hc0, Ar.par_eq huc]
  have haoc : A.aof x0 c = j * 6 := by unfold Ar.aof; rw [if_neg hc0, Ar.par_eq huc, hplace]
  obtain ⟨⟨cuy, y1, y2⟩, y3, y4, y5⟩ := hw1.bks y hk
  have hby : B y < wr.heap.size := (h.bks y hk).1.choose_spec.1.lt
  have k6 : Kp [B y] V (put6 V (B y) (j * 6) (.int .i64 (A.lb c).kind) (.int .i64 (A.lb c).ns) (.string (A.lb c).name) (.slice pa.1 pa.2.1 pa.2.2) (.string (A.lb c).text) (.slice none 0 0)) := kp_put6 (Kp.refl [B y] V) _ _ _ _ _ _ _
  have e6 := put6_eq V (B y) (j * 6) (.int .i64 (A.lb c).kind) (.int .i64 (A.lb c).ns) (.string (A.lb c).name) (.slice pa.1 pa.2.1 pa.2.2) (.string (A.lb c).text) (.slice none 0 0)
  obtain ⟨cur', g1, g2⟩ := setCells_block (B y) 33 [.int .i64 (A.lb c).kind, .int .i64 (A.lb c).ns, .string (A.lb c).name, .slice pa.1 pa.2.1 pa.2.2, .string (A.lb c).text, .slice none 0 0] (j * 6) V cuy y1
  have hget := setCells_get (B y) 33 [.int .i64 (A.lb c).kind, .int .i64 (A.lb c).ns, .string (A.lb c).name, .slice pa.1 pa.2.1 pa.2.2, .string (A.lb c).text, .slice none 0 0] (j * 6) V cuy cur' y1 g1 (by simp; omega)
  rw [← e6] at g1
  generalize put6 V (B y) (j * 6) (.int .i64 (A.lb c).kind) (.int .i64 (A.lb c).ns) (.string (A.lb c).name) (.slice pa.1 pa.2.1 pa.2.2) (.string (A.lb c).text) (.slice none 0 0) = W at g1 k6 ⊢
  have hbl : ∀ (g : Nat) (cu : Array Value), At V g cu 33 → ∃ cu', At W g cu' 33 ∧ cu'.size = cu.size := fun g cu hg => by
    by_cases e : g = B y
    · subst e
      have : cu = cuy := by
        unfold At at hg y1
        rw [y1] at hg
        simp only [Option.some.injEq, Obj.cells.injEq, and_true] at hg
        exact hg.symm
      exact ⟨cur', g1, by rw [this]; exact g2⟩
    · exact ⟨cu, hg.kept k6 (by simpa using e), rfl⟩
  refine ⟨hw1.kp.trans k6 (fun x hx => Or.inr (by rw [List.mem_singleton.1 hx]; exact y3)), ?_, hw1.topN, fun p hp => ?_, h.inj, fun x hx e => ?_, .inl h.mx, fun x hx => ?_⟩
  · obtain ⟨cu, t1, t2⟩ := hw1.top
    obtain ⟨cu', u1, u2⟩ := hbl gT cu t1
    exact ⟨cu', u1, by omega⟩
  · obtain ⟨⟨cu, t1, t2⟩, t3, t4, t5⟩ := hw1.bks p hp
    obtain ⟨cu', u1, u2⟩ := hbl (B p) cu t1
    exact ⟨⟨cu', u1, by omega⟩, t3, t4, t5⟩
  · rcases hx with hx | rfl
    · exact h.mkd x hx e
    · exact ⟨y, huc, hk⟩
  · by_cases e : x = c
    · subst e
      refine ⟨pa, ?_, ?_⟩
      · rw [habc, haoc]
        refine ⟨cur', _, g1, fun i hi => ?_⟩
        rw [hget, if_pos (by simp; omega), show j * 6 + i - j * 6 = i by omega]
        have e5 : A.kdV B K x = (none, 0, 0) := by unfold Ar.kdV; rw [if_neg (by rw [hcK]; simp)]
        rw [e5]
        rfl
      · refine ⟨hat.len, hat.cap, fun hn => ?_⟩
        obtain ⟨b, off, cu, t, hq, q1, q2, q3⟩ := hat.at' hn
        have hl := lt_of q2
        exact ⟨b, off, cu, t, ⟨by have := h.kp.size; omega, by rw [hT]; simp only [if_neg (show ¬ b < wr.heap.size by omega)]⟩, q1, by rw [k6.block b hl (by simp; omega)]; exact q2, q3⟩
    · have hx' : M x := hx.resolve_right e
      obtain ⟨pb, c1, c2⟩ := hw1.cl x hx'
      refine ⟨pb, ?_, c2.keep (fun z hz hzl => k6.block z hzl (fun hs => by
        rw [List.mem_singleton.1 hs] at hz
        have := hz.2
        rw [y4] at this
        cases this))⟩
      by_cases eb : A.abk x0 gT B x = B y
      · rw [eb] at c1 ⊢
        obtain ⟨cu, t, t1, t2⟩ := c1
        have hcu : cu = cuy ∧ t = 33 := by
          unfold At at y1
          rw [y1] at t1
          simp only [Option.some.injEq, Obj.cells.injEq, and_true] at t1
          exact ⟨t1.1.symm, t1.2.symm⟩
        obtain ⟨rfl, rfl⟩ := hcu
        refine ⟨cur', _, g1, fun i hi => ?_⟩
        have hap : A.aof x0 x + 6 ≤ j * 6 ∨ j * 6 + 6 ≤ A.aof x0 x := by
          have e0 : x ≠ x0 := fun e0 => by
            unfold Ar.abk at eb
            rw [if_pos e0] at eb
            exact y5 eb.symm
          obtain ⟨p, hu, hkp⟩ := h.mkd x hx' e0
          unfold Ar.abk at eb
          rw [if_neg e0, Ar.par_eq hu] at eb
          obtain rfl := h.inj p y hkp hk eb
          obtain ⟨_, h1⟩ := Ar.place_lt ok hu
          have : A.place p x ≠ j := fun e4 => by
            rw [e4, List.getElem?_eq_getElem hj, hc] at h1
            exact e (Option.some.inj h1).symm
          unfold Ar.aof
          rw [if_neg e0, Ar.par_eq hu]
          omega
        rw [hget, if_neg (by simp; omega)]
        exact t2 i hi
      · exact c1.of_block (k6.block _ (Nat.lt_of_lt_of_le (h.blk2 hx').2.2 k.size) (by simpa using eb))

/-- Once all is told. -/
theorem Cs.nd (h : Cs A w wr x0 gT τ B M K) (ok : A.Ok) (hM : ∀ x, A.Wn x x0 → M x) (hK : ∀ x, A.Wn x x0 → A.kids x ≠ [] → K x = true) (hK2 : ∀ x, A.kids x = [] → K x = false) (hx0 : x0 < A.n) :
    ∃ p, Cl wr gT 0 (A.lb x0) p ∧ Nd (fun b => w.heap.size ≤ b ∧ τ b ≠ 0) wr (A.lb x0) (A.below x0) p := by
  have key : ∀ m k x, x < A.n → A.anc k x = some x0 → A.n ≤ m + k → ∃ p, Cl wr (A.abk x0 gT B x) (A.aof x0 x) (A.lb x) p ∧ Nd (fun b => w.heap.size ≤ b ∧ τ b ≠ 0) wr (A.lb x) (A.below x) p := by
    intro m
    induction m with
    | zero => intro k x hx e hm; exact absurd (ok.anc_lt hx e) (by omega)
    | succ m ih =>
      intro k x hx e hm
      have hwn : A.Wn x x0 := ⟨k, e⟩
      obtain ⟨pa, c1, c2⟩ := h.cl x (hM x hwn)
      refine ⟨(pa, A.kdV B K x), c1, c2.mono (fun z _ hz => ⟨hz.1, by rw [hz.2]; omega⟩), ?_⟩
      rw [ok.below_kids]
      by_cases hks : A.kids x = []
      · have e5 : A.kdV B K x = (none, 0, 0) := by unfold Ar.kdV; rw [if_neg (by rw [hK2 x hks]; simp)]
        rw [e5, hks]
        exact Rt.nil _ _ _ _
      · have hkx := hK x hwn hks
        have e5 : A.kdV B K x = (some ⟨B x, 0, none⟩, (A.kids x).length, (A.kids x).length) := by unfold Ar.kdV; rw [if_pos hkx]
        rw [e5]
        obtain ⟨⟨cur, g1, g2⟩, g3, g4, _⟩ := h.bks x hkx
        refine ⟨cur.toList, ⟨by simp; omega, Nat.le_refl _, fun _ => ⟨B x, 0, cur, _, ⟨g3, by rw [g4]; omega⟩, rfl, g1, fun j hj => by simp⟩⟩, ?_⟩
        have row : ∀ (r : List Nat) (i : Nat), (A.kids x).drop i = r → Lf (fun b => w.heap.size ≤ b ∧ τ b ≠ 0) wr (r.foldr (fun c r => Fo.cons (A.lb c) (A.below c) r) .nil) (cur.toList.drop (i * 6)) := by
          intro r
          induction r with
          | nil =>
            intro i hi
            have hil : (A.kids x).length ≤ i := by
              have := congrArg List.length hi
              simp at this
              omega
            rw [List.foldr_nil]
            exact List.drop_eq_nil_of_le (by simp; omega)
          | cons c r ihr =>
            intro i hi
            have hil : i < (A.kids x).length := by
              have := congrArg List.length hi
              simp at this
              omega
            have hc : (A.kids x)[i] = c ∧ (A.kids x).drop (i + 1) = r := by
              rw [List.drop_eq_getElem_cons hil] at hi
              exact List.cons.inj hi
            have huc : A.up c = some x := (ok.link x c).1 (by rw [← hc.1]; exact List.getElem_mem hil)
            have hc0 : c ≠ x0 := fun e0 => by
              have := ok.not_up huc
              rw [e0] at this
              exact this hwn
            obtain ⟨p, d1, d2⟩ := ih (k + 1) c (ok.lt huc).1 (by simp only [Ar.anc, huc, Option.bind_some, e]) (by omega)
            have hab : A.abk x0 gT B c = B x := by unfold Ar.abk; rw [if_neg hc0, Ar.par_eq huc]
            have hao : A.aof x0 c = i * 6 := by unfold Ar.aof; rw [if_neg hc0, Ar.par_eq huc, ← hc.1, Ar.place_at ok hil]
            rw [hab, hao] at d1
            rw [List.foldr_cons]
            refine Lf.cons_iff.2 ⟨p, cur.toList.drop ((i + 1) * 6), ?_, d2, ihr (i + 1) hc.2⟩
            obtain ⟨cu, t, t1, t2⟩ := d1
            have hcu : cu = cur := by
              unfold At at g1
              rw [g1] at t1
              simp only [Option.some.injEq, Obj.cells.injEq, and_true] at t1
              exact t1.1.symm
            subst hcu
            apply List.ext_getElem?
            intro z
            rw [List.getElem?_drop]
            by_cases hz : z < 6
            · rw [List.getElem?_append_left (by rw [six_len]; exact hz), ← t2 z hz]; simp
            · rw [List.getElem?_append_right (by rw [six_len]; omega), six_len, List.getElem?_drop]
              congr 1
              omega
        have := row (A.kids x) 0 (List.drop_zero)
        rw [Nat.zero_mul, List.drop_zero] at this
        exact this
  obtain ⟨p, h1, h2⟩ := key A.n 0 x0 hx0 rfl (by omega)
  unfold Ar.abk Ar.aof at h1
  rw [if_pos rfl, if_pos rfl] at h1
  exact ⟨p, h1, h2⟩

end

end Go.Proofs.Ytpkppobkagdhkaa
