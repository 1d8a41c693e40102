/-
  PipePlays: whatever room and list of calls it is given, it answers true, and the list reads as it did; no condition.
-/
import Derived.Test.YtigpbkgcfnmdiaaRows
import Derived.WalkKit
import Derived.ProofKit
import Derived.OpenShut
import Derived.ShutString
import Derived.ChangeOld
import Derived.Below
import Derived.Deep.Slices
import Derived.Deep.Strs
import Derived.Test.YtigpbkgcfnmdiaaPlays
namespace Go.Proofs.Ytigpbkgcfnmdiaa.pipePlays
open Go.ChangeShapes Go.WideShapes Go.ChangeAt Go.RowKit
open Go.ChangeMaps (open_string shut_string)
set_option linter.unusedVariables false

theorem own : ownKnob Try.prog.godebug = none := by kernel_rfl
theorem laidOut : laidOutB Try.prog = true := by kernel_rfl

theorem cells37 : Try.prog.cellsOf 37 = 3 := by kernel_rfl
theorem cells3 : Try.prog.cellsOf 3 = 1 := by kernel_rfl
theorem cells22 : Try.prog.cellsOf 22 = 1 := by kernel_rfl

theorem three {α : Type} {l : List α} (h : l.length = 3) : ∃ a b c, l = [a, b, c] := by
  match l, h with
  | [a, b, c], _ => exact ⟨a, b, c, rfl⟩

/-- An address at which a cell lies is a plain one. -/
theorem plain_of {w : World} {a : Addr} {u : Value} {n : Nat} (h : w.cell? (a.add n) = some u) (h0 : ∃ u0, w.cell? (a.add 0) = some u0) : ∃ b off, a = ⟨b, off, none⟩ := by
  obtain ⟨b, off, sp⟩ := a
  cases sp with
  | none => exact ⟨b, off, rfl⟩
  | some r =>
    obtain ⟨u0, h3⟩ := h0
    simp [World.cell?, Addr.add] at h3
    split at h3 <;> simp at h3

/-- A list of ints that came in, opened. -/
theorem ints_of {H : Type} {enc : TypeId × Value → H} {W : World} {spare : Nat → Bool} {held : Bool} {base fuel : Nat} {cs : List Value} {x : DataW H × List MemPlace}
    (hf : DataW.trod enc Try.prog W base spare held fuel 22 cs = some x) : ∃ (lo : Option Addr) (lc : Nat) (ys : List Int), cs = [.slice lo ys.length lc] ∧ Rd W (.slice lo ys.length lc) (ys.map (Value.int .i64)) ∧ ys.length ≤ lc ∧ lc ≤ 9223372036854775807 := by
  rcases open_ints Try.underlying22 Try.underlying3 (by kernel_rfl) hf with ⟨hcs, _⟩ | ⟨a, l, c, zs, hcs, _, hl, hm, hz, _, hcell, _⟩
  · exact ⟨none, 0, [], hcs, ⟨none, 0, rfl, fun j hj => by simp at hj⟩, by simp, by omega⟩
  · have hlz : l ≤ zs.length := by rw [hz]; split <;> omega
    have hll : (zs.take l).length = l := by simp; omega
    refine ⟨some a, c, zs.take l, by rw [hll]; exact hcs, ⟨some a, c, by rw [List.length_map], fun j hj => ?_⟩, by rw [hll]; exact hl, by unfold maxLen at hm; omega⟩
    rw [List.length_map, hll] at hj
    obtain ⟨b, off, rfl⟩ := plain_of (hcell 0 (by omega)) ⟨_, hcell 0 (by omega)⟩
    have hc := hcell j (by omega)
    rw [Addr.add_lit] at hc
    refine ⟨b, off, rfl, ?_⟩
    rw [hc, List.getElem?_map, List.getElem?_take, if_pos hj, List.getElem?_eq_getElem (by omega), List.getD_eq_getElem?_getD, List.getElem?_eq_getElem (by omega)]
    rfl

/-- A call that came in, opened. -/
theorem ask_of {H : Type} {enc : TypeId × Value → H} {w : World} {base n : Nat} {spare : Nat → Bool} {held : Bool} {a : Addr} {cs : List Value} {x : DataW H × List MemPlace}
    (h1 : w.cells? base a (Try.prog.cellsOf 37) = some cs) (h2 : DataW.trod enc Try.prog w base spare held n 37 cs = some x) :
    ∃ (kd i : Int) (lo : Option Addr) (lc : Nat) (ys : List Int), w.cell? (a.add 0) = some (.int .i64 kd) ∧ w.cell? (a.add 1) = some (.int .i64 i) ∧ w.cell? (a.add 2) = some (.slice lo ys.length lc) ∧ Rd w (.slice lo ys.length lc) (ys.map (Value.int .i64)) ∧ ys.length ≤ lc ∧ lc ≤ 9223372036854775807 := by
  rw [cells37] at h1
  obtain ⟨_, hlen, hcell⟩ := World.cells?_some h1
  obtain ⟨y0, y1, y2, n', _, _, g0, g1, g2⟩ := Deep.trod_struct3 Try.underlying37 h2
  obtain ⟨v0, v1, v2, rfl⟩ := three hlen
  simp only [cells3, cells22] at g0 g1 g2
  obtain ⟨kd, e0, _⟩ := DataW.trod_int Try.underlying3 g0
  obtain ⟨i, e1, _⟩ := DataW.trod_int Try.underlying3 g1
  obtain ⟨lo, lc, ys, e2, r1, r2, r3⟩ := ints_of g2
  simp at e0 e1 e2
  subst e0 e1 e2
  exact ⟨kd, i, lo, lc, ys, by simpa using hcell 0 (by omega), by simpa using hcell 1 (by omega), by simpa using hcell 2 (by omega), r1, r2, r3⟩

/-- A list of calls that came in, opened. -/
theorem asks_of {H : Type} {enc : TypeId × Value → H} {W : World} {spare : Nat → Bool} {held : Bool} {base fuel len cap : Nat} {a0 : Option Addr} {x : DataW H × List MemPlace}
    (hf : DataW.trod enc Try.prog W base spare held fuel 34 [.slice a0 len cap] = some x) : Asks W a0 len := by
  rcases Deep.open_slice Try.underlying34 hf with ⟨hcs, _⟩ | ⟨a, l, c, m, n, D, Pl, hcs, _, hl, _, hmm, _, hel⟩
  · simp at hcs
    obtain ⟨rfl, rfl, rfl⟩ := hcs
    intro k hk
    omega
  · simp at hcs
    obtain ⟨rfl, rfl, rfl⟩ := hcs
    have hlm : len ≤ m := by rw [hmm]; split <;> omega
    intro k hk
    obtain ⟨cs0, p1, p2⟩ := hel 0 (by omega)
    obtain ⟨_, _, _, _, _, p3, _⟩ := ask_of p1 p2
    rw [Nat.zero_mul, Addr.add_zero'] at p3
    obtain ⟨b, off, rfl⟩ := plain_of p3 ⟨_, p3⟩
    obtain ⟨cs', h1, h2⟩ := hel k (by omega)
    obtain ⟨kd, i, lo, lc, ys, h3, h4, h5, h6, h7, h8⟩ := ask_of h1 h2
    rw [cells37, Addr.add_lit, Addr.add_lit] at h3 h4 h5
    exact ⟨b, off, kd, i, lo, lc, ys, rfl, block_lt_of_cell h3, h3, h4, h5, h6, h7, h8⟩

/-- The walk: true is returned, and nothing that was there is written. -/
theorem walk (a0 : Int) (a1 : Option Addr) (len1 cap1 : Nat) (w : World) (w1 : Asks w a1 len1) :
    Calls Try.prog 4 #[.int .i64 a0, .slice a1 len1 cap1] w fun e w' => e = .returned (.bool true) ∧ Below w.heap.size w w' := by
  refine (plays_any w a0 a1 len1 cap1 w1).mono ?_
  rintro e w' ⟨rfl, hk⟩
  exact ⟨rfl, hk.below _ (Nat.le_refl _) (fun x hx => by simp at hx)⟩

set_option maxRecDepth 100000 in
theorem lifted (os : Os) (started : os.Started) (H : Type) (enc : TypeId × Value → H) :
    ReturnsInHanded {} Try.checked os 4 .any (Rows.pipePlaysSpec.pre6 enc Try.prog Try.f4 Rows.pipePlaysRow.domain false) (Rows.pipePlaysSpec.post enc Try.prog Try.f4 false true false false) := by
  refine returnsInHanded_of_change (C := Try.checked) own started (by kernel_rfl) Try.func4
    (ChangeSpec.witness6 (enc := enc) (C := Try.checked) false ⟨#[], #[.int .i64 0, .slice none 0 0], []⟩ 8 (by kernel_rfl) (by kernel_rfl) (by kernel_rfl) (by kernel_rfl)) ?_
  intro W base args ds gs before hval0 hW hcnd _
  have hval : ∀ (j : Nat) t v, Try.f4.params[j]? = some t → args[j]? = some v → Value.okWide Try.prog W .any base t v := hval0
  have hW' := hW
  obtain ⟨p, q, hA0, hV, rfl, hfz, hnd⟩ := hW
  have hA : DataW.TrodAll enc Try.prog W 0 (fun _ => true) true Try.f4.params.toList args.toList ds p := hA0
  rw [Try.params4] at hA hval
  obtain ⟨v0, vs0, d0, ds0, p0, q0, hargs, rfl, rfl, h0, r0⟩ := trodAll_cons hA
  obtain ⟨v1, vs1, d1, ds1, p1, q1, rfl, rfl, rfl, h1, r1⟩ := trodAll_cons r0
  obtain ⟨rfl, rfl, rfl⟩ := trodAll_nil r1
  obtain rfl : args = #[v0, v1] := by cases args; simp_all
  obtain ⟨rfl, rfl⟩ := trodVars_none hV
  obtain ⟨a0, rfl, rfl, rfl, w0⟩ := open_int Try.underlying3 (hval 0 3 v0 rfl rfl) h0
  obtain ⟨a1, len1, cap1, rfl⟩ := okWide_slice Try.underlying34 (hval 1 34 v1 rfl rfl)
  have k1 := h1
  have lt1 : ∀ x ∈ p1, x.block < W.heap.size := by obtain ⟨m, hm⟩ := k1; exact DataW.trod_lt m _ _ _ hm
  have w1 : Asks W a1 len1 := by
    obtain ⟨fuel, hf⟩ := h1
    exact asks_of hf
  clear hA0 hval0
  refine (walk a0 a1 len1 cap1 W w1).mono fun e W' ⟨he, bel⟩ => ?_
  subst he
  exact ⟨_, rfl, _, _, _, [], _, [], hW', trodAll_mk1 (shut_bool Try.underlying4 _), (trodAll_cons_mk (shut_int Try.underlying3 w0) (trodAll_cons_mk (Below.trod laidOut (by kernel_rfl) (of_decide_eq_true (by kernel_rfl)) k1 bel lt1) trodAll_mk0)), rfl, bel.frame _, fun h => by cases h⟩

theorem over : Rows.pipePlaysRow.holds Try.pinned (OpenSpec.ofChange Rows.pipePlaysSpec) :=
  OpenClaim.holds_of_wide 4 Try.f4 rfl rfl rfl rfl rfl rfl rfl ⟨rfl, rfl, rfl, rfl, rfl⟩ rfl rfl rfl rfl rfl (by kernel_rfl) Try.func4 (by kernel_rfl)
    (of_decide_eq_true (by kernel_rfl)) (by unfold Func.isWrapper; first | (rw [if_pos (by decide +kernel)]; kernel_rfl) | (rw [if_neg (by decide +kernel)]; exact ⟨rfl, rfl⟩))
    (fun os started H enc _ => lifted os started H enc)

end Go.Proofs.Ytigpbkgcfnmdiaa.pipePlays

namespace Go.Proofs.Ytigpbkgcfnmdiaa
theorem pipePlays_holds : Rows.PipePlaysSaid := pipePlays.over
#print axioms pipePlays_holds
end Go.Proofs.Ytigpbkgcfnmdiaa
