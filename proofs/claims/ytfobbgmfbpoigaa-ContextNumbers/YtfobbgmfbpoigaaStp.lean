/-
  The steps of a region that draws its order, in short words: what an operation waits for is read off the region, and what comes of it is reckoned.
-/
import Derived.Test.YtfobbgmfbpoigaaHold
namespace Go.Proofs.Ytfobbgmfbpoigaa
open Go.RowKit
set_option linter.unusedVariables false

theorem pu1 {α : Type} (l : List α) (i : Nat) (a : α) : l.toArray.setIfInBounds i a = (l.set i a).toArray := List.setIfInBounds_toArray ..
theorem pu2 {α : Type} (x : α) (xs : List α) (a : α) : (x :: xs).set 0 a = a :: xs := List.set_cons_zero
theorem pu3 {α : Type} (x : α) (xs : List α) (i : Nat) (a : α) : (x :: xs).set (i + 1) a = x :: xs.set i a := List.set_cons_succ

section
variable {P : Program} {ops : Array Oper} {Q : Exit → Act → World → Prop} {md : Region.Mode} {S : World → Prop} {T : List Nat} {v : Value} {fuel : Nat} {listed : Array Bool} {a a' : Act} {w : World} {ty : TypeId} {po : String} {af : Array Edge} {gd : Option (Nat × Bool)}

theorem g_pure (i : Nat) (ds : Option Nat) (op : Op) (h : wpAnyG P md ops Q S T fuel (listed.setIfInBounds i true) a' w) (hi : ops[i]? = some ⟨ds, op, ty, po, af, gd⟩ := by exact rfl) (hw : Region.wanted ⟨ds, op, ty, po, af, gd⟩ (yielded ops a.tmps) = true := by exact rfl) (hy : ∀ w, (execOp a.eval ⟨ds, op, ty, po, af, gd⟩).run P w = .ok (.value v) w := by intro w; go_simp; try with_reducible rfl) (hp : a.put ds v = a' := by simp only [Act.put, pu1, pu2, pu3]; exact rfl) (hS : S w := by assumption)
    (hb : (Region.noSelect ops && Region.free md ops listed i && (Region.ready md ops listed).contains i && !T.contains i) = true := by kernel_rfl) (hQ : ∀ c a w, Q (.panic c) (a.put ds v) w → Q (.panic c) a w := by exact fun _ _ _ h => h) : wpAnyG P md ops Q S T (fuel + 1) listed a w := by
  simp only [Bool.and_eq_true] at hb
  subst hp
  exact wpAnyG_pure hi hb.1.1.1 hb.1.1.2 hb.1.2 hb.2 hQ (Or.inl ⟨hw, hy⟩) hS h

theorem g_skip (i : Nat) (ds : Option Nat) (op : Op) (h : wpAnyG P md ops Q S T fuel (listed.setIfInBounds i true) a' w) (hi : ops[i]? = some ⟨ds, op, ty, po, af, gd⟩ := by exact rfl) (hw : Region.wanted ⟨ds, op, ty, po, af, gd⟩ (yielded ops a.tmps) = false := by exact rfl) (hp : a.put ds undef = a' := by simp only [Act.put, pu1, pu2, pu3]; exact rfl) (hS : S w := by assumption)
    (hb : (Region.noSelect ops && Region.free md ops listed i && (Region.ready md ops listed).contains i && !T.contains i) = true := by kernel_rfl) (hQ : ∀ c a w, Q (.panic c) (a.put ds undef) w → Q (.panic c) a w := by exact fun _ _ _ h => h) : wpAnyG P md ops Q S T (fuel + 1) listed a w := by
  simp only [Bool.and_eq_true] at hb
  subst hp
  exact wpAnyG_pure hi hb.1.1.1 hb.1.1.2 hb.1.2 hb.2 hQ (Or.inr ⟨hw, rfl⟩) hS h

theorem g_take (i : Nat) (ds : Option Nat) (op : Op) (hy : ∀ w, S w → (execOp a.eval ⟨ds, op, ty, po, af, gd⟩).run P w = .ok (.value v) w) (h : wpAnyG P md ops Q S T fuel (listed.setIfInBounds i true) a' w) (hi : ops[i]? = some ⟨ds, op, ty, po, af, gd⟩ := by exact rfl) (hw : Region.wanted ⟨ds, op, ty, po, af, gd⟩ (yielded ops a.tmps) = true := by exact rfl) (hp : a.put ds v = a' := by simp only [Act.put, pu1, pu2, pu3]; exact rfl) (hS : S w := by assumption)
    (hb : (Region.noSelect ops && Region.free md ops listed i && (Region.ready md ops listed).contains i && (lastOf md ops T i && !T.contains i && T.all (fun j => !listed.getD j true))) = true := by kernel_rfl) (hQ : ∀ c a w, Q (.panic c) (a.put ds v) w → Q (.panic c) a w := by exact fun _ _ _ h => h) : wpAnyG P md ops Q S T (fuel + 1) listed a w := by
  rw [Bool.and_eq_true, Bool.and_eq_true, Bool.and_eq_true] at hb
  subst hp
  exact wpAnyG_take hi hb.1.1.1 hb.1.1.2 hb.1.2 hb.2 hQ (Or.inl ⟨hw, hy⟩) hS h

theorem g_takeC (i : Nat) (ds : Option Nat) (op : Op) (hy : ∀ w, S w → (execOp a.eval ⟨ds, op, ty, po, af, gd⟩).run P w = .ok (.value v) w) (h : wpAnyG P md ops Q S T fuel (listed.setIfInBounds i true) a' w) (hi : ops[i]? = some ⟨ds, op, ty, po, af, gd⟩ := by exact rfl) (hw : Region.wanted ⟨ds, op, ty, po, af, gd⟩ (yielded ops a.tmps) = true := by exact rfl) (hp : a.put ds v = a' := by simp only [Act.put, pu1, pu2, pu3]; exact rfl) (hS : S w := by assumption)
    (hb : (Region.noSelect ops && Region.free md ops listed i && (Region.ready md ops listed).contains i && (T.all (fun j => wait md ops ops.size j i) && !T.contains i && T.all (fun j => !listed.getD j true) && cloB md ops listed)) = true := by kernel_rfl) (hQ : ∀ c a w, Q (.panic c) (a.put ds v) w → Q (.panic c) a w := by exact fun _ _ _ h => h) : wpAnyG P md ops Q S T (fuel + 1) listed a w := by
  rw [Bool.and_eq_true, Bool.and_eq_true, Bool.and_eq_true] at hb
  subst hp
  exact wpAnyG_takeC hi hb.1.1.1 hb.1.1.2 hb.1.2 hb.2 hQ (Or.inl ⟨hw, hy⟩) hS h

theorem g_any (i : Nat) (ds : Option Nat) (op : Op) (h : wpAny P md ops Q fuel (listed.setIfInBounds i true) a' w) (hi : ops[i]? = some ⟨ds, op, ty, po, af, gd⟩ := by exact rfl) (hw : Region.wanted ⟨ds, op, ty, po, af, gd⟩ (yielded ops a.tmps) = true := by exact rfl) (hy : ∀ w, (execOp a.eval ⟨ds, op, ty, po, af, gd⟩).run P w = .ok (.value v) w := by intro w; go_simp; try with_reducible rfl) (hp : a.put ds v = a' := by simp only [Act.put, pu1, pu2, pu3]; exact rfl)
    (hb : (Region.noSelect ops && Region.free md ops listed i && (Region.ready md ops listed).contains i) = true := by kernel_rfl) (hQ : ∀ c a w, Q (.panic c) (a.put ds v) w → Q (.panic c) a w := by exact fun _ _ _ h => h) : wpAny P md ops Q (fuel + 1) listed a w := by
  rw [Bool.and_eq_true, Bool.and_eq_true] at hb
  subst hp
  exact wpAny_take hi hb.1.1 hb.1.2 hb.2 hQ (Or.inl ⟨hw, hy⟩) h

end

end Go.Proofs.Ytfobbgmfbpoigaa
