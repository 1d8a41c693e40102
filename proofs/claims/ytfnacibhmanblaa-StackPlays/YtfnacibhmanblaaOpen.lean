/-
  A list of calls that came in, opened: each call lies in four cells.
-/
import Derived.Test.YtfnacibhmanblaaBoth
import Derived.ProofKit
import Derived.Deep.Slices
import Derived.Lib.SmallJoins
namespace Go.Proofs.Ytfnacibhmanblaa
open Go.ChangeShapes Go.WideShapes Go.RowKit

theorem Try.cells28 : Try.prog.cellsOf 28 = 4 := by kernel_rfl
theorem Try.cells3 : Try.prog.cellsOf 3 = 1 := by kernel_rfl
theorem Try.cells9 : Try.prog.cellsOf 9 = 1 := by kernel_rfl

theorem four {α : Type} {l : List α} (h : l.length = 4) : ∃ a b c d, l = [a, b, c, d] := by
  match l, h with
  | [a, b, c, d], _ => exact ⟨a, b, c, d, rfl⟩

theorem ask_of {H : Type} {enc : TypeId × Value → H} {w : World} {base n : Nat} {spare : Nat → Bool} {held : Bool} {a : Addr} {cs : List Value} {x : DataW H × List MemPlace}
    (h1 : w.cells? base a (Try.prog.cellsOf 28) = some cs) (h2 : DataW.trod enc Try.prog w base spare held n 28 cs = some x) :
    ∃ (kd i m : Int) (s : ByteArray), w.cell? (a.add 0) = some (.int .i64 kd) ∧ w.cell? (a.add 1) = some (.int .i64 i) ∧ w.cell? (a.add 2) = some (.int .i64 m) ∧ w.cell? (a.add 3) = some (.string s) := by
  rw [Try.cells28] at h1
  obtain ⟨_, hlen, hcell⟩ := World.cells?_some h1
  obtain ⟨y0, y1, y2, y3, n', _, _, g0, g1, g2, g3⟩ := Joins.trod_struct4 Try.underlying28 h2
  obtain ⟨v0, v1, v2, v3, rfl⟩ := four hlen
  simp only [Try.cells3, Try.cells9] at g0 g1 g2 g3
  obtain ⟨kd, e0, _⟩ := DataW.trod_int Try.underlying3 g0
  obtain ⟨i, e1, _⟩ := DataW.trod_int Try.underlying3 g1
  obtain ⟨m, e2, _⟩ := DataW.trod_int Try.underlying3 g2
  obtain ⟨s, e3, _⟩ := DataW.trod_string Try.underlying9 g3
  simp at e0 e1 e2 e3
  subst e0 e1 e2 e3
  exact ⟨kd, i, m, s, by simpa using hcell 0 (by omega), by simpa using hcell 1 (by omega), by simpa using hcell 2 (by omega), by simpa using hcell 3 (by omega)⟩

end Go.Proofs.Ytfnacibhmanblaa
