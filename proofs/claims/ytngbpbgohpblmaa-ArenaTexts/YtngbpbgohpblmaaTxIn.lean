/-
  A slice of texts that came in.
-/
import Derived.Test.YtngbpbgohpblmaaTxW
import Derived.ProofKit
import Derived.SliceStrings
namespace Go.Proofs.Ytngbpbgohpblmaa
open Go.ChangeShapes Go.WideShapes Go.ChangeAt Go.RowKit

theorem cellsS : Try.prog.cellsOf 9 = 1 := by kernel_rfl

theorem texts_in {H : Type} {enc : TypeId × Value → H} {W : World} {a : Option Addr} {len cap : Nat} {d : DataW H} {ps : List MemPlace} (h : DataW.Trod enc Try.prog W 0 (fun _ => true) true 53 (.slice a len cap) d ps) : ∃ F, Tin W a len cap F := by
  obtain ⟨fuel, hf⟩ := h
  rcases open_strings Try.underlying53 Try.underlying9 cellsS hf with ⟨hcs, hx⟩ | ⟨x, l, c, ss, hcs, _, hl, hm, hz, hx, hcell, hws⟩
  · simp [Value.cells] at hcs
    obtain ⟨rfl, rfl, rfl⟩ := hcs
    exact ⟨fun _ => ⟨#[]⟩, Nat.le_refl _, fun i hi => by omega⟩
  · simp [Value.cells] at hcs
    obtain ⟨rfl, rfl, rfl⟩ := hcs
    have hss : len ≤ ss.length := by
      split at hz <;> omega
    refine ⟨fun i => ss.getD i ByteArray.empty, hl, fun i hi => ?_⟩
    obtain ⟨b, off, spot⟩ := x
    have hspot : spot = none := by simpa [Addr.add] using World.cell?_spot (hcell 0 (by omega))
    subst hspot
    have h1 := hcell i (by omega)
    rw [Go.WideShapes.add_plain] at h1
    refine ⟨b, off, rfl, ?_⟩
    exact h1

end Go.Proofs.Ytngbpbgohpblmaa
