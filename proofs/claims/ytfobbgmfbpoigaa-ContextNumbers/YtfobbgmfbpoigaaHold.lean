/-
  A region that draws its order, whose last operation is a call that waits for its loads by way of others. No program.
-/
import Derived.Test.YtfobbgmfbpoigaaHeld
namespace Go.Proofs.Ytfobbgmfbpoigaa
open Go.RowKit
set_option linter.unusedVariables false

section
variable {P : Program} {ops : Array Oper} {Q : Exit → Act → World → Prop} {md : Region.Mode} {S : World → Prop} {T : List Nat}

/-- What one waits for has come up ahead of it. -/
def Clo (md : Region.Mode) (ops : Array Oper) (listed : Array Bool) : Prop := ∀ (j : Nat) (oj : Oper), ops[j]? = some oj → listed.getD j false = true → ∀ e ∈ oj.after, Region.binds md e = true → listed.getD e.on false = true

def cloB (md : Region.Mode) (ops : Array Oper) (listed : Array Bool) : Bool :=
  (List.range ops.size).all fun j => match ops[j]? with
    | some oj => !listed.getD j false || oj.after.all (fun e => !Region.binds md e || listed.getD e.on false)
    | none => true

theorem clo_of {listed : Array Bool} (h : cloB md ops listed = true) : Clo md ops listed := fun j oj hj hl e he hb => by
  have hlt : j < ops.size := by
    rcases Nat.lt_or_ge j ops.size with h1 | h1
    · exact h1
    · rw [Array.getElem?_eq_none h1] at hj; cases hj
  have h1 := List.all_eq_true.1 h j (List.mem_range.2 hlt)
  rw [hj] at h1
  simp only [hl, Bool.not_true, Bool.false_or] at h1
  have h2 := Array.all_eq_true'.1 h1 e he
  rw [hb] at h2
  simpa using h2

/-- So many steps down from j stands i. -/
def wait (md : Region.Mode) (ops : Array Oper) : Nat → Nat → Nat → Bool
  | 0, _, _ => false
  | f + 1, j, i => match ops[j]? with
    | some oj => oj.after.any (fun e => Region.binds md e && (e.on == i || wait md ops f e.on i))
    | none => false

theorem wait_listed {listed : Array Bool} (hc : Clo md ops listed) : ∀ (f j i : Nat) (oj : Oper), ops[j]? = some oj → (∀ e ∈ oj.after, Region.binds md e = true → listed.getD e.on false = true) → wait md ops f j i = true → listed.getD i false = true
  | 0, j, i, oj, _, _, h => by cases h
  | f + 1, j, i, oj, hj, ha, h => by
    unfold wait at h
    rw [hj] at h
    simp only [Array.any_eq_true', Bool.and_eq_true, Bool.or_eq_true, beq_iff_eq] at h
    obtain ⟨e, he, hb, h2⟩ := h
    rcases h2 with h2 | h2
    · rw [← h2]; exact ha e he hb
    · cases hk : ops[e.on]? with
      | none =>
        cases f with
        | zero => cases h2
        | succ f => unfold wait at h2; rw [hk] at h2; cases h2
      | some ok => exact wait_listed hc f e.on i ok hk (fun e' he' hb' => hc e.on ok hk (ha e he hb) e' he' hb') h2

theorem clo_set {listed : Array Bool} (hc : Clo md ops listed) {i : Nat} {oi : Oper} (hi : ops[i]? = some oi) (ha : ∀ e ∈ oi.after, Region.binds md e = true → listed.getD e.on false = true) : Clo md ops (listed.setIfInBounds i true) := fun j oj hj hl e he hb => by
  have up : ∀ k, listed.getD k false = true → (listed.setIfInBounds i true).getD k false = true := fun k hk => by
    by_cases h1 : i = k
    · subst h1
      rcases Nat.lt_or_ge i listed.size with h' | h'
      · simp [h']
      · simp [Array.getElem?_eq_none h'] at hk
    · rw [getD_set_ne false h1]; exact hk
  refine up _ ?_
  by_cases h1 : i = j
  · subst h1
    rw [hi] at hj
    obtain rfl := Option.some.inj hj
    exact ha e he hb
  · rw [getD_set_ne false h1] at hl
    exact hc j oj hj hl e he hb

theorem wpAnyG_firstC {i : Nat} {oi : Oper} {v : Value} (hi : ops[i]? = some oi) (hsel : ∀ (j : Nat) (o : Oper) cs b, ops[j]? = some o → o.op ≠ .select cs b)
    (hQ : ∀ c a w, Q (.panic c) (a.put oi.dst v) w → Q (.panic c) a w) (hT : ∀ j, j ∈ T → wait md ops ops.size j i = true) (hiT : i ∉ T) :
    ∀ (fuel : Nat) (listed : Array Bool) (a : Act) (w : World), Clo md ops listed →
      (∀ j oj, ops[j]? = some oj → j ≠ i → listed.getD j true = false → (∀ e ∈ oj.after, Region.binds md e = true → e.on ≠ i) → oi.apart ops oj = true) →
      i ∈ Region.ready md ops listed → Opn T listed → YieldsIf P ops S oi v a → S w →
      wpAnyG P md ops Q S T fuel (listed.setIfInBounds i true) (a.put oi.dst v) w → wpAnyG P md ops Q S T (fuel + 1) listed a w := by
  intro fuel
  induction fuel with
  | zero =>
    intro listed a w _ _ hr hop hy hS H
    refine ⟨fun h => (by rw [h] at hr; cases hr), fun j hj => ?_⟩
    by_cases hji : j = i
    · subst hji; exact hy.wpOp hi hS ⟨fun _ => hS, H⟩
    · have := ready_mono hj hji
      rw [H.1] at this
      cases this
  | succ fuel ih =>
    intro listed a w hc hfree hr hop hy hS H
    refine ⟨fun h => (by rw [h] at hr; cases hr), fun j hj => ?_⟩
    by_cases hji : j = i
    · subst hji; exact hy.wpOp hi hS ⟨fun _ => hS, H⟩
    · have h1 := H.2 j (ready_mono hj hji)
      obtain ⟨hjun, oj, hoj, hall⟩ := mem_ready.1 hj
      have hnot := not_after hr hall
      have hjT : j ∉ T := fun hm => by
        have h0 := (mem_ready.1 hr).1
        have h2 := wait_listed hc ops.size j i oj hoj hall (hT j hm)
        rcases Nat.lt_or_ge i listed.size with h' | h'
        · simp [h'] at h0 h2; rw [h0] at h2; cases h2
        · simp [Array.getElem?_eq_none h'] at h2
      have h2 := wpOp_putIf hoj (hfree j oj hoj hji hjun hnot) (fun cs b => hsel i oi cs b hi) (fun cs b => hsel j oj cs b hoj) hQ hy h1
      have hfree' : ∀ k ok, ops[k]? = some ok → k ≠ i → (listed.setIfInBounds j true).getD k true = false →
          (∀ e ∈ ok.after, Region.binds md e = true → e.on ≠ i) → oi.apart ops ok = true := fun k ok hk hki hun hno => by
        refine hfree k ok hk hki ?_ hno
        by_cases hjk : j = k
        · subst hjk; exact hjun
        · rw [getD_set_ne true hjk] at hun; exact hun
      refine wpOp_mono (fun a' w' h3 => ?_) h2
      have hS' := h3.2.1 ((hop.set hiT).set hjT)
      refine ⟨fun _ => hS', ih (listed.setIfInBounds j true) a' w' (clo_set hc hoj hall) hfree' (ready_mono hr (Ne.symm hji)) (hop.set hjT) h3.1 hS' ?_⟩
      rw [Array.setIfInBounds_comm _ _ hji]
      exact h3.2.2

/-- Take number i first: a load for which the last ones wait, by way of others. -/
theorem wpAnyG_takeC {i : Nat} {oi : Oper} {v : Value} {fuel : Nat} {listed : Array Bool} {a : Act} {w : World} (hi : ops[i]? = some oi)
    (hs : Region.noSelect ops = true) (hf : Region.free md ops listed i = true) (hr : (Region.ready md ops listed).contains i = true) (hT : (T.all (fun j => wait md ops ops.size j i) && !T.contains i && T.all (fun j => !listed.getD j true) && cloB md ops listed) = true)
    (hQ : ∀ c a w, Q (.panic c) (a.put oi.dst v) w → Q (.panic c) a w) (hy : YieldsIf P ops S oi v a) (hS : S w)
    (h : wpAnyG P md ops Q S T fuel (listed.setIfInBounds i true) (a.put oi.dst v) w) : wpAnyG P md ops Q S T (fuel + 1) listed a w := by
  simp only [Bool.and_eq_true] at hT
  exact wpAnyG_firstC hi (Region.noSelect_spec hs) hQ (fun j hj => List.all_eq_true.1 hT.1.1.1 j hj) (by have := hT.1.1.2; simpa using this) fuel listed a w (clo_of hT.2) (Region.free_spec hi hf) (by simpa using hr) (opn_of hT.1.2) hy hS h

end

end Go.Proofs.Ytfobbgmfbpoigaa
