/-
  A token's block, and the block of a result.
-/
import Derived.Test.YtcfaejbbjmjgpaaGreatDoorGroundE
namespace Go.Proofs.YtcfaejbbjmjgpaaGreatDoor
open Go.RowKit Utf
set_option linter.unusedVariables false

/-- Block g holds these cells. -/
def At (w : World) (g : Nat) (cur : Array Value) (e : TypeId) : Prop := w.heap[g]? = some (.cells cur e)

theorem At.lt {w : World} {g : Nat} {cur : Array Value} {e : TypeId} (h : At w g cur e) : g < w.heap.size := (Array.getElem?_eq_some_iff.1 h).1

theorem At.kept {w w' : World} {g : Nat} {cur : Array Value} {e : TypeId} {S : List Nat} (h : At w g cur e) (k : Kp S w w') (hg : g ∉ S) : At w' g cur e := by
  unfold At
  rw [k.block g h.lt hg]
  exact h

theorem At.set {w : World} {g : Nat} {cur : Array Value} {e : TypeId} (h : At w g cur e) (o : Nat) (u : Value) : At (w.setCell ⟨g, o, none⟩ u) g (cur.setIfInBounds o u) e := setCell_block h o u

theorem At.other {w : World} {g f : Nat} {cur : Array Value} {e : TypeId} (h : At w g cur e) (hf : f ≠ g) (o : Nat) (u : Value) : At (w.setCell ⟨f, o, none⟩ u) g cur e := by
  unfold At
  rw [Below.heap_setCell _ _ _ _ (by simpa using fun e => hf e.symm)]
  exact h

theorem At.new (w : World) (cur : Array Value) (e : TypeId) : At (w.alloc (.cells cur e)) w.heap.size cur e := heap_new w _

theorem At.cell {w : World} {g : Nat} {cur : Array Value} {e : TypeId} (h : At w g cur e) (j : Nat) : w.cell? ⟨g, j, none⟩ = cur[j]? := cell_of h j

theorem At.free {w : World} {g : Nat} {cur : Array Value} {e : TypeId} (h : At w g cur e) (j : Nat) : w.frozen? ⟨g, j, none⟩ = false := frozen_of h j

theorem Mp.none {w w' : World} (k : Kp [] w w') : Mp w w' none 0 0 [] := ⟨⟨rfl, Or.inl ⟨rfl, rfl⟩⟩, k, fun x hx => by simp [blk] at hx⟩

/-- A zero token's cells. -/
abbrev ZT : Array Value := #[.int .i64 0, .string ⟨#[]⟩, .slice none 0 0, .bool false, .string ⟨#[]⟩]

/-- The result's block and the token's own one. -/
structure Bx (w W : World) (g0 g : Nat) (v0 v1 v2 v3 v4 : Value) : Prop where
  kp : Kp [] w W
  r : At W g0 ZT 44
  a : At W g #[v0, v1, v2, v3, v4] 44
  ne : g0 ≠ g
  n0 : w.heap.size ≤ g0
  n8 : w.heap.size ≤ g

theorem Bx.kept {w W W' : World} {g0 g : Nat} {v0 v1 v2 v3 v4 : Value} (h : Bx w W g0 g v0 v1 v2 v3 v4) (k : Kp [] W W') : Bx w W' g0 g v0 v1 v2 v3 v4 :=
  ⟨h.kp.trans k (fun z hz => by simp at hz), h.r.kept k (by simp), h.a.kept k (by simp), h.ne, h.n0, h.n8⟩

theorem Bx.new {w w2 : World} {g0 : Nat} (k : Kp [] w w2) (r : At w2 g0 ZT 44) (hg : w.heap.size ≤ g0) (v0 v1 v2 v3 v4 : Value) : Bx w (w2.alloc (.cells #[v0, v1, v2, v3, v4] 44)) g0 w2.heap.size v0 v1 v2 v3 v4 :=
  ⟨k.alloc _, r.kept ((Kp.refl [] _).alloc _) (by simp), At.new _ _ _, by have := r.lt; omega, hg, k.size⟩

theorem Bx.set {w W : World} {g0 g : Nat} {v0 v1 v2 v3 v4 : Value} (h : Bx w W g0 g v0 v1 v2 v3 v4) (o : Nat) (u : Value) (u0 u1 u2 u3 u4 : Value) (e : #[v0, v1, v2, v3, v4].setIfInBounds o u = #[u0, u1, u2, u3, u4]) : Bx w (W.setCell ⟨g, o, none⟩ u) g0 g u0 u1 u2 u3 u4 :=
  ⟨h.kp.setCell (Or.inr h.n8) _, h.r.other (fun e => h.ne e.symm) _ _, by rw [← e]; exact h.a.set o _, h.ne, h.n0, h.n8⟩

/-- What is read and written there. -/
theorem Bx.facts {w W : World} {g0 g : Nat} {v0 v1 v2 v3 v4 : Value} (h : Bx w W g0 g v0 v1 v2 v3 v4) :
    (W.cell? ⟨g, 0, none⟩ = some v0 ∧ W.cell? ⟨g, 1, none⟩ = some v1 ∧ W.cell? ⟨g, 2, none⟩ = some v2 ∧ W.cell? ⟨g, 3, none⟩ = some v3 ∧ W.cell? ⟨g, 4, none⟩ = some v4) ∧ (∀ j, W.frozen? ⟨g, j, none⟩ = false) ∧
    (W.cell? ⟨g0, 0, none⟩ = some (.int .i64 0) ∧ W.cell? ⟨g0, 1, none⟩ = some (.string ⟨#[]⟩) ∧ W.cell? ⟨g0, 2, none⟩ = some (.slice none 0 0) ∧ W.cell? ⟨g0, 3, none⟩ = some (.bool false) ∧ W.cell? ⟨g0, 4, none⟩ = some (.string ⟨#[]⟩)) ∧ (∀ j, W.frozen? ⟨g0, j, none⟩ = false) :=
  ⟨⟨h.a.cell 0, h.a.cell 1, h.a.cell 2, h.a.cell 3, h.a.cell 4⟩, fun j => h.a.free j, ⟨h.r.cell 0, h.r.cell 1, h.r.cell 2, h.r.cell 3, h.r.cell 4⟩, fun j => h.r.free j⟩

/-- Five cells are written. -/
def put5 (w : World) (g : Nat) (v0 v1 v2 v3 v4 : Value) : World := ((((w.setCell ⟨g, 0, none⟩ v0).setCell ⟨g, 1, none⟩ v1).setCell ⟨g, 2, none⟩ v2).setCell ⟨g, 3, none⟩ v3).setCell ⟨g, 4, none⟩ v4

theorem At.put5 {w : World} {g : Nat} {u0 u1 u2 u3 u4 : Value} (h : At w g #[u0, u1, u2, u3, u4] 44) (v0 v1 v2 v3 v4 : Value) : At (put5 w g v0 v1 v2 v3 v4) g #[v0, v1, v2, v3, v4] 44 :=
  ((((h.set 0 v0).set 1 v1).set 2 v2).set 3 v3).set 4 v4

theorem Kp.put5 {S : List Nat} {a w : World} (h : Kp S a w) {g : Nat} (hg : g ∈ S ∨ a.heap.size ≤ g) (v0 v1 v2 v3 v4 : Value) : Kp S a (put5 w g v0 v1 v2 v3 v4) :=
  ((((h.setCell hg v0).setCell hg v1).setCell hg v2).setCell hg v3).setCell hg v4

/-- Once the result is laid. -/
theorem laid5 {w W : World} {g0 : Nat} (k : Kp [] w W) (r : At W g0 ZT 44) (hg : w.heap.size ≤ g0) (v0 v1 v2 v3 v4 : Value) :
    (put5 W g0 v0 v1 v2 v3 v4).cell? ⟨g0, 0, none⟩ = some v0 ∧ (put5 W g0 v0 v1 v2 v3 v4).cell? ⟨g0, 1, none⟩ = some v1 ∧ (put5 W g0 v0 v1 v2 v3 v4).cell? ⟨g0, 2, none⟩ = some v2 ∧ (put5 W g0 v0 v1 v2 v3 v4).cell? ⟨g0, 3, none⟩ = some v3 ∧ (put5 W g0 v0 v1 v2 v3 v4).cell? ⟨g0, 4, none⟩ = some v4 ∧ Kp [] w (put5 W g0 v0 v1 v2 v3 v4) :=
  ⟨(r.put5 v0 v1 v2 v3 v4).cell 0, (r.put5 v0 v1 v2 v3 v4).cell 1, (r.put5 v0 v1 v2 v3 v4).cell 2, (r.put5 v0 v1 v2 v3 v4).cell 3, (r.put5 v0 v1 v2 v3 v4).cell 4, k.put5 (Or.inr hg) _ _ _ _ _⟩

theorem At.cells5 {w : World} {g : Nat} {v0 v1 v2 v3 v4 : Value} (h : At w g #[v0, v1, v2, v3, v4] 44) : w.cell? ⟨g, 0, none⟩ = some v0 ∧ w.cell? ⟨g, 1, none⟩ = some v1 ∧ w.cell? ⟨g, 2, none⟩ = some v2 ∧ w.cell? ⟨g, 3, none⟩ = some v3 ∧ w.cell? ⟨g, 4, none⟩ = some v4 :=
  ⟨h.cell 0, h.cell 1, h.cell 2, h.cell 3, h.cell 4⟩

end Go.Proofs.YtcfaejbbjmjgpaaGreatDoor
