/-
  A slice of bytes that came in.
-/
import Derived.Test.YtpjkpobdkmcedaaDoorBase
import Derived.ProofKit
import Derived.LaidMore
import Derived.Below
import Derived.ChangeOld
import Derived.OpenShut
namespace Go.Proofs.YtpjkpobdkmcedaaDoor
open Go.ChangeShapes Go.WideShapes Go.ChangeAt Go.RowKit

theorem byt_of_wf {l : List Int} (h : ∀ n, n ∈ l → (Lit.int .u8 n).wf = true) : byt l := fun x hx => by
  have := h x hx
  simp [Lit.wf, show IntKind.u8.min = 0 from rfl, show IntKind.u8.max = 255 from rfl] at this
  omega

theorem byte_of {n : Int} (h : (Lit.int .u8 n).wf = true) : 0 ≤ n ∧ n ≤ 255 := by
  simp [Lit.wf, show IntKind.u8.min = 0 from rfl, show IntKind.u8.max = 255 from rfl] at h
  omega

theorem bytes_in {H : Type} {enc : TypeId × Value → H} {W : World} {a : Option Addr} {len cap : Nat} {d : DataW H} {ps : List MemPlace} (h : DataW.Trod enc Tryd.prog W 0 (fun _ => true) true 27 (.slice a len cap) d ps) (hsz : ∀ n, n ∈ d.weights Tryd.prog 27 → n ≤ reachBytes) :
    ∃ zs, Rb W a len cap (zs.map (Value.int .u8)) ∧ byt zs ∧ len ≤ 140737488355328 := by
  have hrb := reachBytes_lt
  obtain ⟨fuel, hf⟩ := h
  rcases open_ints Tryd.underlying27 Tryd.underlying5 (by kernel_rfl) hf with ⟨hcs, _⟩ | ⟨x, l, c, zs, hcs, _, hl, hm, hz, hx, hcell, hwz⟩
  · simp [Value.cells] at hcs
    obtain ⟨rfl, rfl, rfl⟩ := hcs
    exact ⟨[], ⟨rfl, Nat.le_refl _, fun j hj => by omega⟩, fun x hx => by simp at hx, by omega⟩
  · simp [Value.cells] at hcs
    obtain ⟨rfl, rfl, rfl⟩ := hcs
    have hz' : zs.length = cap := by simpa using hz
    simp only [Prod.mk.injEq] at hx
    obtain ⟨rfl, _⟩ := hx
    have hcap : len ≤ 140737488355328 := by
      have := hsz (((lits IntKind.u8 (zs.take len) : List (DataW H)).length + (lits IntKind.u8 (zs.drop len) : List (DataW H)).length) * Tryd.prog.bytesOf 5) (by simp only [DataW.weights, Tryd.underlying27]; simp)
      rw [show Tryd.prog.bytesOf 5 = 1 by kernel_rfl] at this
      simp [lits] at this
      omega
    refine ⟨zs.take len, ⟨by simp; omega, hl, fun j hj => ?_⟩, byt_of_wf (fun n hn => hwz n (List.mem_of_mem_take hn)), hcap⟩
    have hc := hcell j (by omega)
    obtain ⟨b, off, sp⟩ := x
    cases sp with
    | some q =>
      have h0 := hcell 0 (by omega)
      simp [World.cell?, Addr.add] at h0
      split at h0 <;> simp at h0
    | none =>
      rw [Addr.add_lit] at hc
      refine ⟨b, off, rfl, ?_⟩
      rw [hc, List.getElem?_map, List.getElem?_take_of_lt hj, List.getElem?_eq_getElem (by omega), List.getD_eq_getElem?_getD, List.getElem?_eq_getElem (by omega)]
      rfl

end Go.Proofs.YtpjkpobdkmcedaaDoor
