/-
  What the rows' conditions on the program's two variables give: the names and the runes lie where they lead; and the heap that the door's own run leaves meets the conditions.
-/
import Derived.Test.YtcfaejbbjmjgpaaGreatDoorGroundC
import Derived.ProofKit
import Derived.LaidMore
import Derived.Deep.Strs
import Derived.SliceStrings
namespace Go.Proofs.YtcfaejbbjmjgpaaGreatDoor
open Go.ChangeShapes Go.WideShapes Go.ChangeAt Go.RowKit

theorem gNames : Tryz.prog.globalNamed "arbour/refs.names" = some 1 := by kernel_rfl
theorem gInstead : Tryz.prog.globalNamed "arbour/refs.instead" = some 0 := by kernel_rfl
theorem tNames : (Tryz.prog.globals[1]?).map (·.type) = some 22 := by kernel_rfl
theorem tInstead : (Tryz.prog.globals[0]?).map (·.type) = some 103 := by kernel_rfl
theorem cells9 : Tryz.prog.cellsOf 9 = 1 := by kernel_rfl
theorem cells21 : Tryz.prog.cellsOf 21 = 1 := by kernel_rfl

theorem strs_inj {H : Type} : ∀ {a b : List ByteArray}, (strs a : List (DataW H)) = strs b → a = b := by
  intro a b h
  unfold strs at h
  refine List.map_inj_right ?_ |>.1 h
  intro x y e
  simp only [DataW.lit.injEq, Lit.string.injEq] at e
  exact ByteArray.ext (Array.toList_inj.1 e)

theorem lits_inj {H : Type} {k : IntKind} : ∀ {a b : List Int}, (lits k a : List (DataW H)) = lits k b → a = b := by
  intro a b h
  unfold lits at h
  refine List.map_inj_right ?_ |>.1 h
  intro x y e
  simpa using e

theorem names_strs : (Rows.laid_arbour_refs_names : DataW Unit) = .slice (strs NM) [] := by kernel_rfl
theorem instead_lits : (Rows.laid_arbour_refs_instead : DataW Unit) = .slice (lits .i32 INS) [] := by kernel_rfl

theorem nm_of {W : World} {t0 : TypeId} {g0 : Nat} {cs0 : Array Value} {f0 : Nat} {p0 : List MemPlace} {held : Bool} {spare : Nat → Bool} {enc : TypeId × Value → Unit} (hg0 : Tryz.prog.globalNamed "arbour/refs.names" = some g0) (ht0 : (Tryz.prog.globals[g0]?).map (·.type) = some t0) (hv0 : W.var? Tryz.prog "arbour/refs.names" = some cs0)
    (hd0 : DataW.trod enc Tryz.prog W 0 spare held f0 t0 cs0.toList = some (Rows.laid_arbour_refs_names, p0)) : Nm W := by
  obtain rfl := Option.some.inj (gNames.symm.trans hg0)
  obtain rfl := Option.some.inj (tNames.symm.trans ht0)
  rcases open_strings Tryz.underlying22 Tryz.underlying9 cells9 hd0 with ⟨_, hx⟩ | ⟨a, len, cap, ss, hcs, _, hl, hm, hz, hx, hcell, hws⟩
  · rw [names_strs] at hx
    simp at hx
  · rw [names_strs] at hx
    simp only [Prod.mk.injEq, DataW.slice.injEq] at hx
    have h1 : NM = ss.take len := strs_inj hx.1.1
    have hss : len ≤ ss.length := by
      split at hz <;> omega
    have hlen : len = 51 := by
      have := congrArg List.length h1
      rw [nm_len, List.length_take] at this
      omega
    subst hlen
    have hvar : W.cell? ⟨1, 0, none⟩ = some (.slice (some a) 51 cap) := by
      have := World.var?_cell gNames hv0 0
      rw [Array.eq_one_of_toList hcs] at this
      simpa using this
    obtain ⟨b, off, spot⟩ := a
    have hspot : spot = none := by simpa [Addr.add] using World.cell?_spot (hcell 0 (by omega))
    subst hspot
    refine ⟨_, cap, hvar, by rw [tx_len, nm_len], hl, fun j hj => ⟨b, off, rfl, ?_⟩⟩
    have hc := hcell j (by omega)
    rw [Go.WideShapes.add_plain] at hc
    rw [hc, h1]
    have hj' : j < ss.length := by omega
    simp [tx, hj, hj']

theorem in_of {W : World} {t0 : TypeId} {g0 : Nat} {cs0 : Array Value} {f0 : Nat} {p0 : List MemPlace} {held : Bool} {spare : Nat → Bool} {enc : TypeId × Value → Unit} (hg0 : Tryz.prog.globalNamed "arbour/refs.instead" = some g0) (ht0 : (Tryz.prog.globals[g0]?).map (·.type) = some t0) (hv0 : W.var? Tryz.prog "arbour/refs.instead" = some cs0)
    (hd0 : DataW.trod enc Tryz.prog W 0 spare held f0 t0 cs0.toList = some (Rows.laid_arbour_refs_instead, p0)) : In W := by
  obtain rfl := Option.some.inj (gInstead.symm.trans hg0)
  obtain rfl := Option.some.inj (tInstead.symm.trans ht0)
  rcases open_ints Tryz.underlying103 Tryz.underlying21 cells21 hd0 with ⟨_, hx⟩ | ⟨a, len, cap, ss, hcs, _, hl, hm, hz, hx, hcell, hws⟩
  · rw [instead_lits] at hx
    simp at hx
  · rw [instead_lits] at hx
    simp only [Prod.mk.injEq, DataW.slice.injEq] at hx
    have h1 : INS = ss.take len := lits_inj hx.1.1
    have hss : len ≤ ss.length := by
      split at hz <;> omega
    have hlen : len = 32 := by
      have := congrArg List.length h1
      rw [ins_len, List.length_take] at this
      omega
    subst hlen
    have hvar : W.cell? ⟨0, 0, none⟩ = some (.slice (some a) 32 cap) := by
      have := World.var?_cell gInstead hv0 0
      rw [Array.eq_one_of_toList hcs] at this
      simpa using this
    obtain ⟨b, off, spot⟩ := a
    have hspot : spot = none := by simpa [Addr.add] using World.cell?_spot (hcell 0 (by omega))
    subst hspot
    refine ⟨_, cap, hvar, by rw [r32_len, ins_len], hl, fun j hj => ⟨b, off, rfl, ?_⟩⟩
    have hc := hcell j (by omega)
    rw [Go.WideShapes.add_plain] at hc
    rw [hc, h1]
    have hj' : j < ss.length := by omega
    simp [r32, hj, hj']

/-- Both variables. -/
def laid2 : List (String × DataW Unit) := [("arbour/refs.names", Rows.laid_arbour_refs_names), ("arbour/refs.instead", Rows.laid_arbour_refs_instead)]
/-- The names alone. -/
def laid1 : List (String × DataW Unit) := [("arbour/refs.names", Rows.laid_arbour_refs_names)]

theorem of_laid2 {W : World} (h : laidMetH Tryz.prog laid2 W) : Nm W ∧ In W := by
  rw [MakeChecks.laidMetH_plain _ _ _ (by kernel_rfl)] at h
  obtain ⟨ps, ⟨g0, t0, cs0, f0, p0, q0, hg0, ht0, hv0, hd0, ⟨g1, t1, cs1, f1, p1, q1, hg1, ht1, hv1, hd1, _, _⟩, _⟩, _, _⟩ := h
  exact ⟨nm_of hg0 ht0 hv0 hd0, in_of hg1 ht1 hv1 hd1⟩

theorem of_laid1 {W : World} (h : laidMetH Tryz.prog laid1 W) : Nm W := by
  rw [MakeChecks.laidMetH_plain _ _ _ (by kernel_rfl)] at h
  obtain ⟨ps, ⟨g0, t0, cs0, f0, p0, q0, hg0, ht0, hv0, hd0, _, _⟩, _, _⟩ := h
  exact nm_of hg0 ht0 hv0 hd0

/-- The door's own heap meets the condition. -/
theorem door_met2 (os : Os) (args : Array Value) : laidMetH Tryz.prog laid2 ((World.doorLaid Tryz.prog 400 os).forCall (fun _ _ => 0) ⟨#[], args, []⟩).memory :=
  laidMetH_of_parts3 (fuel := 8) (laidMet_of_run' 8 (by kernel_rfl) (by kernel_rfl)) (by kernel_rfl) (by kernel_rfl)
theorem door_met1 (os : Os) (args : Array Value) : laidMetH Tryz.prog laid1 ((World.doorLaid Tryz.prog 400 os).forCall (fun _ _ => 0) ⟨#[], args, []⟩).memory :=
  laidMetH_of_parts3 (fuel := 8) (laidMet_of_run' 8 (by kernel_rfl) (by kernel_rfl)) (by kernel_rfl) (by kernel_rfl)

end Go.Proofs.YtcfaejbbjmjgpaaGreatDoor
