/-
  What came in: a slice of calls that are asked.
-/
import Derived.Test.YtcfaejbbjmjgpaaGreatDoorInts
import Derived.ProofKit
import Derived.Deep.Grids
namespace Go.Proofs.YtcfaejbbjmjgpaaGreatDoor
open Go.ChangeShapes Go.WideShapes Go.RowKit Go.Deep
set_option linter.unusedVariables false

/-- The slice of n calls from ao on reads so. -/
def As (w : World) (ao : Option Addr) (n c : Nat) (K N : Nat → Int) (F : Nat → Bool) : Prop :=
  n ≤ c ∧ ∀ i, i < n → ∃ b off, ao = some ⟨b, off, none⟩ ∧ w.cell? ⟨b, off + i * 3, none⟩ = some (.int .i64 (K i)) ∧ w.cell? ⟨b, off + i * 3 + 1, none⟩ = some (.int .i64 (N i)) ∧ w.cell? ⟨b, off + i * 3 + 2, none⟩ = some (.bool (F i))

theorem As.kept {w w' : World} {ao : Option Addr} {n c : Nat} {K N : Nat → Int} {F : Nat → Bool} (h : As w ao n c K N F) (k : Kp [] w w') : As w' ao n c K N F :=
  ⟨h.1, fun i hi => by
    obtain ⟨b, off, h1, h2, h3, h4⟩ := h.2 i hi
    exact ⟨b, off, h1, by rw [k.cell (a := ⟨b, off + i * 3, none⟩) (block_lt_of_cell h2) (by simp)]; exact h2, by rw [k.cell (a := ⟨b, off + i * 3 + 1, none⟩) (block_lt_of_cell h3) (by simp)]; exact h3, by rw [k.cell (a := ⟨b, off + i * 3 + 2, none⟩) (block_lt_of_cell h4) (by simp)]; exact h4⟩⟩

theorem cells36 : Tryz.prog.cellsOf 36 = 3 := by kernel_rfl
theorem cells4b : Tryz.prog.cellsOf 4 = 1 := by kernel_rfl

/-- Three cells that can be read as a call are one. -/
theorem ask_cells {H : Type} {enc : TypeId × Value → H} {W : World} {fuel : Nat} {v0 v1 v2 : Value} {x : DataW H × List MemPlace} (h : DataW.trod enc Tryz.prog W 0 (fun _ => true) true fuel 36 [v0, v1, v2] = some x) :
    ∃ (k n : Int) (b : Bool), v0 = .int .i64 k ∧ v1 = .int .i64 n ∧ v2 = .bool b := by
  obtain ⟨xs, n, _, rfl, _, hlen, hf⟩ := DataW.trod_struct Tryz.underlying36 h
  match xs, hlen with
  | [y0, y1, y2], _ =>
    have g0 := hf 0 _ rfl
    have g1 := hf 1 _ rfl
    have g2 := hf 2 _ rfl
    simp [cells3, cells4b] at g0 g1 g2
    obtain ⟨k, e0, _⟩ := DataW.trod_int Tryz.underlying3 g0
    obtain ⟨m, e1, _⟩ := DataW.trod_int Tryz.underlying3 g1
    obtain ⟨b, e2, _⟩ := DataW.trod_bool Tryz.underlying4 g2
    simp only [List.cons.injEq, and_true] at e0 e1 e2
    exact ⟨k, m, b, e0, e1, e2⟩

theorem ask_plain {W : World} {a : Addr} {v : Value} (h : W.cell? a = some v) : ∃ b off, a = ⟨b, off, none⟩ := by
  obtain ⟨b, off, sp⟩ := a
  cases sp with
  | none => exact ⟨b, off, rfl⟩
  | some q =>
    simp [World.cell?] at h
    split at h <;> simp at h

/-- A slice of calls that came in. -/
theorem asks_of {H : Type} {enc : TypeId × Value → H} {W : World} {a : Option Addr} {len cap : Nat} {d : DataW H} {ps : List MemPlace} (h : DataW.Trod enc Tryz.prog W 0 (fun _ => true) true 30 (.slice a len cap) d ps) : ∃ K N F, As W a len cap K N F := by
  obtain ⟨fuel, hf⟩ := h
  rcases open_slice Tryz.underlying30 hf with ⟨hcs, hx⟩ | ⟨x, l, c, m, n, D, Pl, hcs, _, hl, hm, hmm, hx, hcell⟩
  · simp [Value.cells] at hcs
    obtain ⟨rfl, rfl, rfl⟩ := hcs
    exact ⟨fun _ => 0, fun _ => 0, fun _ => false, Nat.le_refl _, fun i hi => by omega⟩
  · simp [Value.cells] at hcs
    obtain ⟨rfl, rfl, rfl⟩ := hcs
    simp only [if_true] at hmm
    subst hmm
    have each : ∀ i, i < len → ∃ p : Int × Int × Bool, W.cell? (x.add (i * 3)) = some (.int .i64 p.1) ∧ W.cell? (x.add (i * 3 + 1)) = some (.int .i64 p.2.1) ∧ W.cell? (x.add (i * 3 + 2)) = some (.bool p.2.2) := fun i hi => by
      obtain ⟨cs', h1, h2⟩ := hcell i (by omega)
      rw [cells36] at h1
      obtain ⟨_, hlen, hc⟩ := World.cells?_some h1
      match cs', hlen with
      | [v0, v1, v2], _ =>
        obtain ⟨k, n', b, rfl, rfl, rfl⟩ := ask_cells h2
        have e0 := hc 0 (by simp)
        have e1 := hc 1 (by simp)
        have e2 := hc 2 (by simp)
        rw [add_add] at e0 e1 e2
        exact ⟨(k, n', b), e0, e1, e2⟩
    obtain ⟨f, hf⟩ := choose_lt each
    refine ⟨fun i => (f i).1, fun i => (f i).2.1, fun i => (f i).2.2, hl, fun i hi => ?_⟩
    have h0 := (hf 0 (by omega)).1
    obtain ⟨b, off, e⟩ := ask_plain (a := x.add (0 * 3)) h0
    simp only [Nat.zero_mul] at e
    have e' : x = ⟨b, off, none⟩ := by rw [← e]; simp [Addr.add]
    subst e'
    obtain ⟨h1, h2, h3⟩ := hf i hi
    rw [Addr.add_lit] at h1 h2 h3
    exact ⟨b, off, rfl, h1, by rw [Nat.add_assoc]; exact h2, by rw [Nat.add_assoc]; exact h3⟩

end Go.Proofs.YtcfaejbbjmjgpaaGreatDoor
