/-
  Arenas by themselves: what a right tree has is kept; what is laid has its labels; what is still to be laid, counted: no program.
-/
import Derived.Test.YtgjkfpmhgidpaaaGreatGT
import Derived.Test.YtgjkfpmhgidpaaaGreatWC
import Derived.Test.YtgjkfpmhgidpaaaGreatPE
namespace Go.Proofs.YtgjkfpmhgidpaaaGreat
set_option linter.unusedVariables false
set_option linter.unusedSimpArgs false

/-- Nothing was struck: all names differ. -/
theorem uniq_len (l : List Att) : (uniq l).length ≤ l.length ∧ ((uniq l).length = l.length → uniq l = l) := by
  suffices h : ∀ n, ∀ l : List Att, l.length = n → (uniq l).length ≤ l.length ∧ ((uniq l).length = l.length → uniq l = l) from h _ l rfl
  intro n
  induction n with
  | zero => intro l hl; rw [List.eq_nil_of_length_eq_zero hl]; exact ⟨Nat.le_refl _, fun _ => rfl⟩
  | succ n ih =>
    intro l hl
    rcases List.eq_nil_or_concat l with rfl | ⟨q, a, rfl⟩
    · exact ⟨Nat.le_refl _, fun _ => rfl⟩
    · rw [List.concat_eq_append] at hl ⊢
      have hq : q.length = n := by simpa using hl
      obtain ⟨h1, h2⟩ := ih q hq
      rw [uniq_snoc]
      unfold add
      split
      · refine ⟨by simp; omega, fun e => ?_⟩
        simp at e; omega
      · refine ⟨by simp; omega, fun e => ?_⟩
        rw [h2 (by simpa using e)]

theorem each_vis {P : Lb → Prop} (f : Fo) : ∀ d, (∀ v, v ∈ f.vis d → P v.2.1) → f.Each P := by
  refine Fo.ind (P := fun f => ∀ d, (∀ v, v ∈ f.vis d → P v.2.1) → f.Each P) (fun d _ => trivial) (fun l k r hk hr d h => ?_) f
  rw [vis_cons] at h
  exact ⟨h (d, l, k) (by simp), hk (d + 1) (fun v hv => h v (by simp [hv])), hr d (fun v hv => h v (by simp [hv]))⟩

theorem Fo.each_and {P Q : Lb → Prop} {f : Fo} (h1 : f.Each P) (h2 : f.Each Q) : f.Each (fun l => P l ∧ Q l) := by
  revert h1 h2
  exact Fo.ind (P := fun f => f.Each P → f.Each Q → f.Each (fun l => P l ∧ Q l)) (fun _ _ => trivial) (fun l k r hk hr h g => ⟨⟨h.1, g.1⟩, hk h.2.1 g.2.1, hr h.2.2 g.2.2⟩) f

theorem sameL_eq {a b : Lb} (h : sameL a b = true) : a = b := by simpa [sameL] using h

/-- Nothing is lost of a right node. -/
theorem kept_right (l : Lb) (h : fieldsF l = true) : keptL l = l := by
  obtain ⟨kd, ns, nm, at', tx⟩ := l
  unfold fieldsF at h
  unfold keptL
  simp only [Lb.kind, Lb.ns, Lb.name, Lb.attrs, Lb.text] at h ⊢
  by_cases h3 : kd = 3
  · subst h3
    rw [if_neg (by omega), if_neg (by omega), if_pos rfl] at h
    unfold elemF at h
    simp only [Lb.kind, Lb.ns, Lb.name, Lb.attrs, Lb.text, decide_eq_true_eq] at h
    obtain ⟨_, _, ht, hu⟩ := h
    rw [if_pos rfl]
    have hu2 : uniq at' = at' := (uniq_len at').2 hu
    rw [hu2, ht]; rfl
  · rw [if_neg h3]
    by_cases h2 : kd = 2
    · subst h2
      rw [if_neg (by omega), if_pos rfl] at h
      have := sameL_eq h
      rw [if_pos rfl]; exact this.symm
    · rw [if_neg h2]
      by_cases h45 : kd = 4 ∨ kd = 5
      · rw [if_pos h45]
        rw [if_neg (by omega), if_neg h2, if_neg h3] at h
        rcases h45 with h4 | h5
        · rw [if_pos h4, Bool.and_eq_true] at h
          exact (sameL_eq h.2).symm
        · rw [if_neg (by omega), if_pos h5] at h
          exact (sameL_eq h).symm
      · rw [if_neg h45]
        by_cases h16 : kd = 1 ∨ kd = 6
        · rw [if_pos h16] at h
          exact (sameL_eq h).symm
        · rw [if_neg h16, if_neg h2, if_neg h3, if_neg (by omega), if_neg (by omega)] at h
          cases h

/-- All nodes below are kept as they are; the top one is a Document. -/
theorem right_each {l : Lb} {k : Fo} (h : rightF l k = true) : l = (1, 0, ⟨#[]⟩, [], ⟨#[]⟩) ∧ k.Each (fun x => keptL x = x) := by
  rw [right_vis, Bool.and_eq_true, decide_eq_true_eq] at h
  obtain ⟨h1, h2⟩ := h
  have hall : ∀ v, v ∈ (Fo.cons l k .nil).vis 0 → keptL v.2.1 = v.2.1 := fun v hv => by
    unfold okV at h2
    have := List.all_eq_true.1 h2 v hv
    rw [node_split, Bool.and_eq_true] at this
    exact kept_right _ this.1
  have hl := hall (0, l, k) (by rw [vis_cons]; simp)
  refine ⟨?_, ?_⟩
  · have hl2 : keptL l = l := hl
    rw [← hl2]
    unfold keptL
    rw [h1]; rfl
  · refine each_vis k 1 (fun v hv => hall v ?_)
    rw [vis_cons]; simp [hv]

namespace Ar

/-- What is so of all labels is so of all that is laid. -/
theorem lay_lbs {P : Lb → Prop} {f : Fo} : f.Each P → ∀ (p : Nat) (a : Ar), (∀ y, P (a.lb y)) → ∀ y, P ((lay f p a).lb y) := by
  refine Fo.ind (P := fun f => f.Each P → ∀ (p : Nat) (a : Ar), (∀ y, P (a.lb y)) → ∀ y, P ((lay f p a).lb y)) (fun _ p a h => h) (fun l k r hk hr he p a h => ?_) f
  obtain ⟨e1, e2, e3⟩ := he
  rw [lay_cons]
  refine hr e3 p _ (hk e2 a.n _ (fun y => ?_))
  show P (if y = a.n then l else a.lb y)
  split
  · exact e1
  · exact h y

/-- How many nodes are still to be laid. -/
def lots : List (Nat × Lb × Fo) → Nat
  | [] => 0
  | x :: rest => 1 + x.2.2.cnt + lots rest

theorem lots_app : ∀ (s t : List (Nat × Lb × Fo)), lots (s ++ t) = lots s + lots t
  | [], t => by simp [lots]
  | x :: s, t => by simp only [List.cons_append, lots, lots_app s t]; omega

theorem lots_items (q : Nat) (f : Fo) : lots (items q f) = f.cnt := by
  refine Fo.ind (P := fun f => lots (items q f) = f.cnt) rfl (fun l k r _ hr => ?_) f
  rw [items_cons, Fo.cnt_cons]
  show 1 + k.cnt + lots (items q r) = _
  rw [hr]

/-- A node laid at the end of another's kids. -/
def add1 (a : Ar) (q : Nat) (l : Lb) : Ar := (a.new l).put q (a.kids q).length a.n

theorem Ok.add1 {a : Ar} (h : a.Ok) {q : Nat} (hq : q < a.n) (l : Lb) : (a.add1 q l).Ok := by
  have := h.pos
  exact (h.new l).put (show q < a.n + 1 by omega) (show a.n < a.n + 1 by omega) (by omega) (h.out a.n (Nat.le_refl _)).2 (h.new_wn l hq)

theorem layAll_cons (q : Nat) (l : Lb) (k : Fo) (rest : List (Nat × Lb × Fo)) (a : Ar) : layAll ((q, l, k) :: rest) a = layAll (items a.n k ++ rest) (a.add1 q l) := by
  rw [lay_items]; rfl

end Ar
end Go.Proofs.YtgjkfpmhgidpaaaGreat
