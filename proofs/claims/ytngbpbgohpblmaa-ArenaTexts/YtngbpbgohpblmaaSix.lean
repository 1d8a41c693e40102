/-
  A node's block: six cells that are written and read at once. No program.
-/
import Derived.Test.YtngbpbgohpblmaaHeld
import Derived.Test.YtngbpbgohpblmaaWoods
namespace Go.Proofs.Ytngbpbgohpblmaa
open Go.RowKit
set_option linter.unusedVariables false

/-- Block g holds these cells. -/
def At (w : World) (g : Nat) (cur : Array Value) (e : TypeId) : Prop := w.heap[g]? = some (.cells cur e (0, 0))

theorem At.lt {w : World} {g : Nat} {cur : Array Value} {e : TypeId} (h : At w g cur e) : g < w.heap.size := (Array.getElem?_eq_some_iff.1 h).1

theorem At.kept {w w' : World} {g : Nat} {cur : Array Value} {e : TypeId} {S : List Nat} (h : At w g cur e) (k : Kp S w w') (hg : g ∉ S) : At w' g cur e := by
  unfold At
  rw [k.block g h.lt hg]
  exact h

theorem At.set {w : World} {g : Nat} {cur : Array Value} {e : TypeId} (h : At w g cur e) (o : Nat) (u : Value) : At (w.setCell ⟨g, o, none⟩ u) g (cur.setIfInBounds o u) e := setCell_block h o u

theorem At.new (w : World) (cur : Array Value) (e : TypeId) : At (w.alloc (.cells cur e)) w.heap.size cur e := heap_new w _
theorem At.new' (w : World) (cur : Array Value) (e : TypeId) (n : Nat) (h : n = w.heap.size) : At (w.alloc (.cells cur e)) n cur e := heap_new' w _ n h

theorem At.cell {w : World} {g : Nat} {cur : Array Value} {e : TypeId} (h : At w g cur e) (j : Nat) : w.cell? ⟨g, j, none⟩ = cur[j]? := cell_of h j

theorem At.free {w : World} {g : Nat} {cur : Array Value} {e : TypeId} (h : At w g cur e) (j : Nat) : w.frozen? ⟨g, j, none⟩ = false := frozen_of h j

/-- Six cells are written, from o on. -/
def put6 (w : World) (g o : Nat) (v0 v1 v2 v3 v4 v5 : Value) : World := (((((w.setCell ⟨g, o, none⟩ v0).setCell ⟨g, o + 1, none⟩ v1).setCell ⟨g, o + 2, none⟩ v2).setCell ⟨g, o + 3, none⟩ v3).setCell ⟨g, o + 4, none⟩ v4).setCell ⟨g, o + 5, none⟩ v5

/-- Six cells of a block are written, from its head on. -/
def putZ (w : World) (g : Nat) (v0 v1 v2 v3 v4 v5 : Value) : World := (((((w.setCell ⟨g, 0, none⟩ v0).setCell ⟨g, 1, none⟩ v1).setCell ⟨g, 2, none⟩ v2).setCell ⟨g, 3, none⟩ v3).setCell ⟨g, 4, none⟩ v4).setCell ⟨g, 5, none⟩ v5

theorem Kp.put6 {S : List Nat} {a w : World} (h : Kp S a w) {g : Nat} (hg : g ∈ S ∨ a.heap.size ≤ g) (o : Nat) (v0 v1 v2 v3 v4 v5 : Value) : Kp S a (put6 w g o v0 v1 v2 v3 v4 v5) :=
  (((((h.setCell hg v0).setCell hg v1).setCell hg v2).setCell hg v3).setCell hg v4).setCell hg v5

theorem Kp.putZ {S : List Nat} {a w : World} (h : Kp S a w) {g : Nat} (hg : g ∈ S ∨ a.heap.size ≤ g) (v0 v1 v2 v3 v4 v5 : Value) : Kp S a (putZ w g v0 v1 v2 v3 v4 v5) :=
  (((((h.setCell hg v0).setCell hg v1).setCell hg v2).setCell hg v3).setCell hg v4).setCell hg v5

theorem At.putZ {w : World} {g : Nat} {e : TypeId} {u0 u1 u2 u3 u4 u5 : Value} (h : At w g #[u0, u1, u2, u3, u4, u5] e) (v0 v1 v2 v3 v4 v5 : Value) : At (putZ w g v0 v1 v2 v3 v4 v5) g #[v0, v1, v2, v3, v4, v5] e :=
  (((((h.set 0 v0).set 1 v1).set 2 v2).set 3 v3).set 4 v4).set 5 v5

theorem At.six {w : World} {g : Nat} {e : TypeId} {v0 v1 v2 v3 v4 v5 : Value} (h : At w g #[v0, v1, v2, v3, v4, v5] e) : w.cell? ⟨g, 0, none⟩ = some v0 ∧ w.cell? ⟨g, 1, none⟩ = some v1 ∧ w.cell? ⟨g, 2, none⟩ = some v2 ∧ w.cell? ⟨g, 3, none⟩ = some v3 ∧ w.cell? ⟨g, 4, none⟩ = some v4 ∧ w.cell? ⟨g, 5, none⟩ = some v5 :=
  ⟨h.cell 0, h.cell 1, h.cell 2, h.cell 3, h.cell 4, h.cell 5⟩

theorem put6_eq (w : World) (g o : Nat) (v0 v1 v2 v3 v4 v5 : Value) : put6 w g o v0 v1 v2 v3 v4 v5 = w.setCells g o [v0, v1, v2, v3, v4, v5] := rfl

/-- Once the result is laid. -/
theorem laid6 {w W : World} {g : Nat} {e : TypeId} {u0 u1 u2 u3 u4 u5 : Value} (k : Kp [] w W) (r : At W g #[u0, u1, u2, u3, u4, u5] e) (hg : w.heap.size ≤ g) (v0 v1 v2 v3 v4 v5 : Value) :
    Hid ((putZ W g v0 v1 v2 v3 v4 v5).cell? ⟨g, 0, none⟩ = some v0 ∧ (putZ W g v0 v1 v2 v3 v4 v5).cell? ⟨g, 1, none⟩ = some v1 ∧ (putZ W g v0 v1 v2 v3 v4 v5).cell? ⟨g, 2, none⟩ = some v2 ∧ (putZ W g v0 v1 v2 v3 v4 v5).cell? ⟨g, 3, none⟩ = some v3 ∧ (putZ W g v0 v1 v2 v3 v4 v5).cell? ⟨g, 4, none⟩ = some v4 ∧ (putZ W g v0 v1 v2 v3 v4 v5).cell? ⟨g, 5, none⟩ = some v5 ∧ Kp [] w (putZ W g v0 v1 v2 v3 v4 v5)) :=
  ⟨(r.putZ v0 v1 v2 v3 v4 v5).cell 0, (r.putZ v0 v1 v2 v3 v4 v5).cell 1, (r.putZ v0 v1 v2 v3 v4 v5).cell 2, (r.putZ v0 v1 v2 v3 v4 v5).cell 3, (r.putZ v0 v1 v2 v3 v4 v5).cell 4, (r.putZ v0 v1 v2 v3 v4 v5).cell 5, k.putZ (Or.inr hg) _ _ _ _ _ _⟩

/-- Ints as values. -/
def iv (l : List Nat) : List Value := l.map (fun n : Nat => Value.int .i64 (n : Int))
theorem iv_len (l : List Nat) : (iv l).length = l.length := by simp [iv]

end Go.Proofs.Ytngbpbgohpblmaa
