/-
  What came in: a slice of calls that are asked.
-/
import Derived.Test.YtpadnfpifldoaaaRf
import Derived.ProofKit
import Derived.Deep.Grids
namespace Go.Proofs.Ytpadnfpifldoaaa.Ints
open Go.ChangeShapes Go.WideShapes Go.RowKit Go.Deep
set_option linter.unusedVariables false

/-- The slice of n calls from ao on reads so. -/
def As (w : World) (ao : Option Addr) (n c : Nat) (F : Nat → Ask) : Prop :=
  n ≤ c ∧ ∀ i, i < n → ∃ b off, ao = some ⟨b, off, none⟩ ∧ w.cell? ⟨b, off + i * 5, none⟩ = some (.int .i64 (F i).1) ∧ w.cell? ⟨b, off + i * 5 + 1, none⟩ = some (.int .i64 (F i).2.1) ∧ w.cell? ⟨b, off + i * 5 + 2, none⟩ = some (.int .i64 (F i).2.2.1) ∧
    w.cell? ⟨b, off + i * 5 + 3, none⟩ = some (.int .i64 (F i).2.2.2.1) ∧ w.cell? ⟨b, off + i * 5 + 4, none⟩ = some (.bool (F i).2.2.2.2)

theorem As.kept {w w' : World} {ao : Option Addr} {n c : Nat} {F : Nat → Ask} (h : As w ao n c F) (k : Kp [] w w') : As w' ao n c F :=
  ⟨h.1, fun i hi => by
    obtain ⟨b, off, h1, h2, h3, h4, h5, h6⟩ := h.2 i hi
    exact ⟨b, off, h1, by rw [k.cell (a := ⟨b, off + i * 5, none⟩) (block_lt_of_cell h2) (by simp)]; exact h2, by rw [k.cell (a := ⟨b, off + i * 5 + 1, none⟩) (block_lt_of_cell h3) (by simp)]; exact h3, by rw [k.cell (a := ⟨b, off + i * 5 + 2, none⟩) (block_lt_of_cell h4) (by simp)]; exact h4,
      by rw [k.cell (a := ⟨b, off + i * 5 + 3, none⟩) (block_lt_of_cell h5) (by simp)]; exact h5, by rw [k.cell (a := ⟨b, off + i * 5 + 4, none⟩) (block_lt_of_cell h6) (by simp)]; exact h6⟩⟩

theorem cellsAsk : Try.prog.cellsOf 26 = 5 := by kernel_rfl
theorem cellsInt : Try.prog.cellsOf 3 = 1 := by kernel_rfl
theorem cellsBool : Try.prog.cellsOf 4 = 1 := by kernel_rfl

/-- Five cells that can be read as a call are one. -/
theorem ask_cells {H : Type} {enc : TypeId × Value → H} {W : World} {fuel : Nat} {v0 v1 v2 v3 v4 : Value} {x : DataW H × List MemPlace} (h : DataW.trod enc Try.prog W 0 (fun _ => true) true fuel 26 [v0, v1, v2, v3, v4] = some x) :
    ∃ (a b c d : Int) (e : Bool), v0 = .int .i64 a ∧ v1 = .int .i64 b ∧ v2 = .int .i64 c ∧ v3 = .int .i64 d ∧ v4 = .bool e := by
  obtain ⟨xs, n, _, rfl, _, hlen, hf⟩ := DataW.trod_struct Try.underlying26 h
  match xs, hlen with
  | [y0, y1, y2, y3, y4], _ =>
    have g0 := hf 0 _ rfl
    have g1 := hf 1 _ rfl
    have g2 := hf 2 _ rfl
    have g3 := hf 3 _ rfl
    have g4 := hf 4 _ rfl
    simp [cellsInt, cellsBool] at g0 g1 g2 g3 g4
    obtain ⟨a, e0, _⟩ := DataW.trod_int Try.underlying3 g0
    obtain ⟨b, e1, _⟩ := DataW.trod_int Try.underlying3 g1
    obtain ⟨c, e2, _⟩ := DataW.trod_int Try.underlying3 g2
    obtain ⟨d, e3, _⟩ := DataW.trod_int Try.underlying3 g3
    obtain ⟨e, e4, _⟩ := DataW.trod_bool Try.underlying4 g4
    simp only [List.cons.injEq, and_true] at e0 e1 e2 e3 e4
    exact ⟨a, b, c, d, e, e0, e1, e2, e3, e4⟩

theorem ask_plain {W : World} {a : Addr} {v : Value} (h : W.cell? a = some v) : ∃ b off, a = ⟨b, off, none⟩ := by
  obtain ⟨b, off, sp⟩ := a
  cases sp with
  | none => exact ⟨b, off, rfl⟩
  | some q =>
    simp [World.cell?] at h
    split at h <;> simp at h

/-- A slice of calls that came in. -/
theorem asks_of {H : Type} {enc : TypeId × Value → H} {W : World} {a : Option Addr} {len cap : Nat} {d : DataW H} {ps : List MemPlace} (h : DataW.Trod enc Try.prog W 0 (fun _ => true) true 27 (.slice a len cap) d ps) : ∃ F, As W a len cap F := by
  obtain ⟨fuel, hf⟩ := h
  rcases open_slice Try.underlying27 hf with ⟨hcs, hx⟩ | ⟨x, l, c, m, n, D, Pl, hcs, _, hl, hm, hmm, hx, hcell⟩
  · simp [Value.cells] at hcs
    obtain ⟨rfl, rfl, rfl⟩ := hcs
    exact ⟨fun _ => (0, 0, 0, 0, false), Nat.le_refl _, fun i hi => by omega⟩
  · simp [Value.cells] at hcs
    obtain ⟨rfl, rfl, rfl⟩ := hcs
    simp only [if_true] at hmm
    subst hmm
    have each : ∀ i, i < len → ∃ p : Ask, W.cell? (x.add (i * 5)) = some (.int .i64 p.1) ∧ W.cell? (x.add (i * 5 + 1)) = some (.int .i64 p.2.1) ∧ W.cell? (x.add (i * 5 + 2)) = some (.int .i64 p.2.2.1) ∧ W.cell? (x.add (i * 5 + 3)) = some (.int .i64 p.2.2.2.1) ∧ W.cell? (x.add (i * 5 + 4)) = some (.bool p.2.2.2.2) := fun i hi => by
      obtain ⟨cs', h1, h2⟩ := hcell i (by omega)
      rw [cellsAsk] at h1
      obtain ⟨_, hlen, hc⟩ := World.cells?_some h1
      match cs', hlen with
      | [v0, v1, v2, v3, v4], _ =>
        obtain ⟨p0, p1, p2, p3, p4, rfl, rfl, rfl, rfl, rfl⟩ := ask_cells h2
        have e0 := hc 0 (by simp)
        have e1 := hc 1 (by simp)
        have e2 := hc 2 (by simp)
        have e3 := hc 3 (by simp)
        have e4 := hc 4 (by simp)
        rw [add_add] at e0 e1 e2 e3 e4
        exact ⟨(p0, p1, p2, p3, p4), e0, e1, e2, e3, e4⟩
    obtain ⟨f, hf⟩ := choose_lt each
    refine ⟨f, hl, fun i hi => ?_⟩
    have h0 := (hf 0 (by omega)).1
    obtain ⟨b, off, e⟩ := ask_plain (a := x.add (0 * 5)) h0
    simp only [Nat.zero_mul] at e
    have e' : x = ⟨b, off, none⟩ := by rw [← e]; simp [Addr.add]
    subst e'
    obtain ⟨h1, h2, h3, h4, h5⟩ := hf i hi
    rw [Addr.add_lit] at h1 h2 h3 h4 h5
    exact ⟨b, off, rfl, h1, by rw [Nat.add_assoc]; exact h2, by rw [Nat.add_assoc]; exact h3, by rw [Nat.add_assoc]; exact h4, by rw [Nat.add_assoc]; exact h5⟩

end Go.Proofs.Ytpadnfpifldoaaa.Ints
