/-
  The program's copyOf, Add; the document's Add, More, Unique.
-/
import Derived.Test.YtpjkpobdkmcedaaDoorLists
import Derived.Laws.MakeOwn
namespace Go.Proofs.YtpjkpobdkmcedaaDoor
open Go.RowKit

theorem take_snoc {l : List Att} {k : Nat} (h : k < l.length) : l.take (k + 1) = l.take k ++ [l[k]] := by
  rw [List.take_succ_eq_append_getElem h]

theorem fits_one {l : List Att} (h : fits l) {k : Nat} (hk : k < l.length) : fits [l[k]] := fun a ha => by
  simp only [List.mem_singleton] at ha
  rw [ha]
  exact h _ (List.getElem_mem hk)

/-- make, of none, with room. -/
theorem make_room (w : World) (n m : Nat) (h1 : n ≤ 100000) (h2 : m ≤ 100000) :
    ∃ w1, (Instr.makeSlice 22 (.int .i64 0) (.int .i64 ((n : Int) + (m : Int)))).run Tryd.prog w = .ok (.slice (some ⟨w.heap.size, 0, none⟩) 0 (n + m)) w1 ∧ Mp w w1 (some ⟨w.heap.size, 0, none⟩) 0 (n + m) [] := by
  obtain ⟨i, hi0, hi1, hi2, hi3⟩ := info_parts info23
  have hr := run_make (P := Tryd.prog) w 22 26 i _ Tryd.underlying22 hi0 hi1 .i64 .i64 0 ((n : Int) + (m : Int)) (Int.le_refl _) (by omega) (by rw [hi3]; omega) (by omega)
  rw [show ((n : Int) + (m : Int)).toNat = n + m by omega] at hr
  refine ⟨_, hr, ownK_new 2 w 26 _ [] 0 (n + m) rfl (by omega) (by unfold maxLen; omega) (by rw [size_madeCells, hi2]; exact Nat.le_refl _) (fun j hj => by omega), (Kp.refl _ _).alloc _, fun k hk => by simp [blk] at hk; omega⟩


/-- A literal of none. -/
theorem mp_none (w : World) : Mp w (w.alloc (.cells #[] 26)) (some ⟨w.heap.size, 0, none⟩) 0 0 [] := rp_lit w #[] [] 0 rfl rfl (by omega)

theorem has_idx (l : List Att) (x : ByteArray) : (∃ i, idx l x = some i ∧ hasN l x = true) ∨ (idx l x = none ∧ hasN l x = false) := by
  have := idx_some (l := l) (x := x)
  cases h : idx l x with
  | none => exact Or.inr ⟨rfl, by rw [h] at this; exact this.symm⟩
  | some i => exact Or.inl ⟨i, rfl, by rw [h] at this; exact this.symm⟩


end Go.Proofs.YtpjkpobdkmcedaaDoor
