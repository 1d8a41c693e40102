/-
  What a call on a list of open elements may turn (Ev: piles and their rows alone, that were made since w0).
-/
import Derived.Test.YtfobbgmfbpoigaaPl
import Derived.Test.YtfobbgmfbpoigaaNam
namespace Go.Proofs.Ytfobbgmfbpoigaa
open Go.RowKit
set_option linter.unusedSimpArgs false

/-- An open element: its handle, its namespace, its name. -/
abbrev Itm (α : Type) := α × Int × ByteArray

/-- The types of piles and of their rows. -/
def pil (t : TypeId) : Prop := t = 79 ∨ t = 67

/-- All that was there at w0, and all blocks of other types than piles, are in w' as they were in w. -/
structure Ev (w0 w w' : World) : Prop where
  os : w'.os = w.os
  tape : w'.tape = w.tape
  output : w'.output = w.output
  size : w.heap.size ≤ w'.heap.size
  old : ∀ k, k < w.heap.size → k < w0.heap.size → w'.heap[k]? = w.heap[k]?
  cells : ∀ (k : Nat) (cur : Array Value) (t : TypeId), w.heap[k]? = some (Obj.cells cur t (0, 0)) → ¬ pil t → w'.heap[k]? = some (Obj.cells cur t (0, 0))

theorem Ev.refl (w0 w : World) : Ev w0 w w := ⟨rfl, rfl, rfl, Nat.le_refl _, fun _ _ _ => rfl, fun _ _ _ h _ => h⟩

theorem Ev.trans {w0 a b c : World} (h : Ev w0 a b) (k : Ev w0 b c) : Ev w0 a c :=
  ⟨k.os.trans h.os, k.tape.trans h.tape, k.output.trans h.output, Nat.le_trans h.size k.size,
    fun i h1 h2 => (k.old i (Nat.lt_of_lt_of_le h1 h.size) h2).trans (h.old i h1 h2), fun i cur t h1 h2 => k.cells i cur t (h.cells i cur t h1 h2) h2⟩

theorem Ev.of_kp {w0 w w' : World} (k : Kp [] w w') : Ev w0 w w' :=
  ⟨k.os, k.tape, k.output, k.size, fun i h1 _ => k.block i h1 (by simp), fun i cur t h1 _ => by rw [k.block i (lt_of h1) (by simp)]; exact h1⟩

/-- What turns piles alone. -/
theorem Ev.of_pil {w0 w w' : World} {S : List Nat} (k : Kp S w w') (hS : ∀ x, x ∈ S → w0.heap.size ≤ x ∧ ∀ (cur : Array Value) (t : TypeId), w.heap[x]? = some (Obj.cells cur t (0, 0)) → pil t) : Ev w0 w w' :=
  ⟨k.os, k.tape, k.output, k.size, fun i h1 h2 => k.block i h1 (fun hx => by have := (hS i hx).1; omega),
    fun i cur t h1 h2 => by rw [k.block i (lt_of h1) (fun hx => h2 ((hS i hx).2 cur t h1))]; exact h1⟩

/-- What w0 had is as it was. -/
theorem Ev.kp {w0 w w' : World} (h : Ev w0 w w') (k : Kp [] w0 w) : Kp [] w0 w' :=
  ⟨h.os.trans k.os, h.tape.trans k.tape, h.output.trans k.output, Nat.le_trans k.size h.size,
    fun i h1 h2 => (h.old i (Nat.lt_of_lt_of_le h1 k.size) h1).trans (k.block i h1 h2)⟩

theorem Ev.back {w0 w w1 w2 : World} (h : Ev w0 w w1) (k : Kp [] w1 w2) : Ev w0 w w2 := h.trans (Ev.of_kp k)

theorem not_pil_string : ¬ pil 9 := by unfold pil; decide
theorem not_pil_item : ¬ pil 51 := by unfold pil; decide
theorem not_pil_list : ¬ pil 69 := by unfold pil; decide
theorem not_pil_el : ¬ pil 28 := by unfold pil; decide

theorem not_pil_ctx : ¬ pil 26 := by unfold pil; decide
theorem not_pil_attr : ¬ pil 36 := by unfold pil; decide

theorem beq_swap (s x : ByteArray) : (s.toList == x.toList) = (x.toList == s.toList) := by
  rw [Bool.eq_iff_iff, beq_iff_eq, beq_iff_eq]
  exact eq_comm

end Go.Proofs.Ytfobbgmfbpoigaa
