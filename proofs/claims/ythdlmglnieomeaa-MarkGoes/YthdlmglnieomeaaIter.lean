/-
  A range over a text, in the midst of other memory: where it stands, and what its next step tells.
-/
import Derived.Test.YthdlmglnieomeaaSpaces
namespace Go.Proofs.Ythdlmglnieomeaa
open Go.RowKit Utf

/-- The range that lies in block g goes to p. -/
def tick (W : World) (g : Nat) (s : ByteArray) (p : Nat) : World := { W with heap := W.heap.setIfInBounds g (.stringIter s p) }

theorem iter_at {w W : World} {s : ByteArray} {pos : Nat} (k : Kp [] (w.iter s pos) W) : W.heap[w.heap.size]? = some (.stringIter s pos) := by
  rw [k.block w.heap.size (by simp [World.iter]) (by simp)]
  exact World.iter_heap w s pos

theorem iter_pos {w W : World} {s : ByteArray} {pos : Nat} (k : Kp [] (w.iter s pos) W) : W.iterPos w.heap.size = pos := by
  simp [World.iterPos, iter_at k]

theorem iter_kp {w W : World} {s : ByteArray} {pos : Nat} (k : Kp [] (w.iter s pos) W) : Kp [] w W :=
  ((Kp.refl [] w).alloc (.stringIter s pos)).trans k (fun x hx => by simp at hx)

theorem tick_size (W : World) (g : Nat) (s : ByteArray) (p : Nat) : (tick W g s p).heap.size = W.heap.size := by simp [tick]

theorem tick_other (W : World) (g : Nat) (s : ByteArray) (p k : Nat) (h : k ≠ g) : (tick W g s p).heap[k]? = W.heap[k]? := by
  simp only [tick]
  rw [Array.getElem?_setIfInBounds_ne (by omega)]

theorem tick_kp {w W : World} {s : ByteArray} {pos : Nat} (k : Kp [] (w.iter s pos) W) (p : Nat) : Kp [] (w.iter s p) (tick W w.heap.size s p) := by
  have hs := k.size
  have h0 : ∀ q, (w.iter s q).heap.size = w.heap.size + 1 := fun q => by simp [World.iter]
  rw [h0] at hs
  refine ⟨k.os, k.tape, k.output, by rw [h0, tick_size]; exact hs, fun i hi _ => ?_⟩
  rw [h0] at hi
  by_cases he : i = w.heap.size
  · subst he
    rw [World.iter_heap]
    simp only [tick]
    rw [Array.getElem?_setIfInBounds_self]
    simp
    omega
  · rw [tick_other _ _ _ _ _ he, k.block i (by rw [h0]; exact hi) (by simp)]
    simp only [World.iter]
    rw [Below.heap_alloc _ _ _ (by omega), Below.heap_alloc _ _ _ (by omega)]

/-- The next step of a range. -/
theorem next_at {w W : World} {s : ByteArray} {pos : Nat} (k : Kp [] (w.iter s pos) W) (h : pos < s.size) (ty : TypeId) :
    (Instr.next (.pointer (some ⟨w.heap.size, 0, none⟩)) true ty).run Try.prog W = .ok (.tuple #[.bool true, .int .i64 pos, .int .i32 (Utf8.decode s pos).1]) (tick W w.heap.size s (pos + (Utf8.decode s pos).2)) := by
  have hg := iter_at k
  simp only [Instr.next, getObj, setObj, Sem.run_bind, Sem.run, hg, Result.andThen, h, if_true]
  simp [goInt, tick]

/-- Its end. -/
theorem next_end {w W : World} {s : ByteArray} {pos : Nat} (k : Kp [] (w.iter s pos) W) (h : ¬ pos < s.size) (ty : TypeId) :
    (Instr.next (.pointer (some ⟨w.heap.size, 0, none⟩)) true ty).run Try.prog W = .ok (.tuple #[.bool false]) W := by
  have hg := iter_at k
  simp [Instr.next, getObj, Sem.run, hg, h]

theorem Made.tick {w W : World} {s : ByteArray} {pos : Nat} {e : TypeId} {ao : Option Addr} {n c : Nat} {xs : List Value} (h : Made (w.iter s pos) W e ao n c xs) (p : Nat) : Made (w.iter s p) (tick W w.heap.size s p) e ao n c xs := by
  obtain ⟨h1, h2, h3⟩ := h
  have h0 : ∀ q, (w.iter s q).heap.size = w.heap.size + 1 := fun q => by simp [World.iter]
  refine ⟨?_, tick_kp h2 p, fun k hk => by rw [h0]; have := h3 k hk; rw [h0] at this; exact this⟩
  rcases h1 with h1 | ⟨g, o, cap, cur, hv, hg, r⟩
  · exact Or.inl h1
  · refine Or.inr ⟨g, o, cap, cur, hv, ?_, r⟩
    rw [tick_other, hg]
    have := h3 g (by rw [hv]; simp [blk])
    rw [h0] at this
    omega

/-- What was read ahead of a range is read in it. -/
theorem Rb.tick {w W : World} {s : ByteArray} {pos : Nat} {ao : Option Addr} {n c : Nat} {xs : List Value} (h : Rb W ao n c xs) (k : Kp [] (w.iter s pos) W) (p : Nat) : Rb (tick W w.heap.size s p) ao n c xs :=
  h.keep (fun a ha => by
    obtain ⟨u, hu⟩ := ha
    refine World.cell?_of_block (tick_other _ _ _ _ _ (fun he => ?_))
    have hg := iter_at k
    simp [World.cell?, he, hg] at hu)

end Go.Proofs.Ythdlmglnieomeaa
