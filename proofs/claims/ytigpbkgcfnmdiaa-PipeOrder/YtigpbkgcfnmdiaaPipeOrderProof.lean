/-
  PipeOrder: whatever room, texts and takes it is given, it answers true, and what it was given reads as it did; no condition.
-/
import Derived.Test.YtigpbkgcfnmdiaaRows
import Derived.WalkKit
import Derived.ProofKit
import Derived.OpenShut
import Derived.ShutString
import Derived.ChangeOld
import Derived.Below
import Derived.Deep.Slices
import Derived.Test.YtigpbkgcfnmdiaaOrder
namespace Go.Proofs.Ytigpbkgcfnmdiaa.pipeOrder
open Go.ChangeShapes Go.WideShapes Go.ChangeAt Go.RowKit
open Go.ChangeMaps (open_string shut_string)
set_option linter.unusedVariables false

theorem own : ownKnob Try.prog.godebug = none := by kernel_rfl
theorem laidOut : laidOutB Try.prog = true := by kernel_rfl

/-- A list of texts that came in, opened. -/
theorem texts_of {H : Type} {enc : TypeId × Value → H} {W : World} {spare : Nat → Bool} {held : Bool} {base fuel len cap : Nat} {ao : Option Addr} {x : DataW H × List MemPlace}
    (hf : DataW.trod enc Try.prog W base spare held fuel 40 [.slice ao len cap] = some x) : ∀ k, k < len → ∃ b off s, ao = some ⟨b, off, none⟩ ∧ W.cell? ⟨b, off + k, none⟩ = some (Value.string s) := by
  rcases Deep.open_slice1 Try.underlying40 (by kernel_rfl) hf with ⟨hcs, _⟩ | ⟨a, l, c, m, n, V, D, Pl, hcs, _, hl, _, hmm, _, hel⟩
  · simp at hcs
    obtain ⟨rfl, rfl, rfl⟩ := hcs
    intro k hk
    omega
  · simp at hcs
    obtain ⟨rfl, rfl, rfl⟩ := hcs
    have hlm : len ≤ m := by rw [hmm]; split <;> omega
    have hone : ∀ k, k < len → ∃ s, W.cell? (a.add k) = some (Value.string s) := fun k hk => by
      obtain ⟨h1, h2⟩ := hel k (by omega)
      obtain ⟨s, e0, _⟩ := DataW.trod_string Try.underlying9 h2
      simp at e0
      exact ⟨s, by rw [h1, e0]⟩
    intro k hk
    obtain ⟨b, off, sp⟩ := a
    have hsp : sp = none := by
      obtain ⟨s, h3⟩ := hone 0 (by omega)
      cases sp with
      | none => rfl
      | some r =>
        simp [World.cell?, Addr.add] at h3
        split at h3 <;> simp at h3
    subst hsp
    obtain ⟨s, h3⟩ := hone k hk
    rw [Addr.add_lit] at h3
    exact ⟨b, off, s, rfl, h3⟩

/-- A list of bools that came in, opened. -/
theorem bools_of {H : Type} {enc : TypeId × Value → H} {W : World} {spare : Nat → Bool} {held : Bool} {base fuel len cap : Nat} {ao : Option Addr} {x : DataW H × List MemPlace}
    (hf : DataW.trod enc Try.prog W base spare held fuel 41 [.slice ao len cap] = some x) : ∀ k, k < len → ∃ b off s, ao = some ⟨b, off, none⟩ ∧ W.cell? ⟨b, off + k, none⟩ = some (Value.bool s) := by
  rcases Deep.open_slice1 Try.underlying41 (by kernel_rfl) hf with ⟨hcs, _⟩ | ⟨a, l, c, m, n, V, D, Pl, hcs, _, hl, _, hmm, _, hel⟩
  · simp at hcs
    obtain ⟨rfl, rfl, rfl⟩ := hcs
    intro k hk
    omega
  · simp at hcs
    obtain ⟨rfl, rfl, rfl⟩ := hcs
    have hlm : len ≤ m := by rw [hmm]; split <;> omega
    have hone : ∀ k, k < len → ∃ s, W.cell? (a.add k) = some (Value.bool s) := fun k hk => by
      obtain ⟨h1, h2⟩ := hel k (by omega)
      obtain ⟨s, e0, _⟩ := DataW.trod_bool Try.underlying4 h2
      simp at e0
      exact ⟨s, by rw [h1, e0]⟩
    intro k hk
    obtain ⟨b, off, sp⟩ := a
    have hsp : sp = none := by
      obtain ⟨s, h3⟩ := hone 0 (by omega)
      cases sp with
      | none => rfl
      | some r =>
        simp [World.cell?, Addr.add] at h3
        split at h3 <;> simp at h3
    subst hsp
    obtain ⟨s, h3⟩ := hone k hk
    rw [Addr.add_lit] at h3
    exact ⟨b, off, s, rfl, h3⟩

/-- The walk: true is returned, and nothing that was there is written. -/
theorem walk (a0 : Int) (a1 : Option Addr) (len1 cap1 : Nat) (a2 : Option Addr) (len2 cap2 : Nat) (w : World)
    (w1 : ∀ k, k < len1 → ∃ b off s, a1 = some ⟨b, off, none⟩ ∧ w.cell? ⟨b, off + k, none⟩ = some (Value.string s)) (w2 : ∀ k, k < len2 → ∃ b off s, a2 = some ⟨b, off, none⟩ ∧ w.cell? ⟨b, off + k, none⟩ = some (Value.bool s)) :
    Calls Try.prog 5 #[.int .i64 a0, .slice a1 len1 cap1, .slice a2 len2 cap2] w fun e w' => e = .returned (.bool true) ∧ Below w.heap.size w w' := by
  refine (order_any w a0 a1 len1 cap1 w1 a2 len2 cap2 w2).mono ?_
  rintro e w' ⟨rfl, hk⟩
  exact ⟨rfl, hk.below _ (Nat.le_refl _) (fun x hx => by simp at hx)⟩

set_option maxRecDepth 100000 in
theorem lifted (os : Os) (started : os.Started) (H : Type) (enc : TypeId × Value → H) :
    ReturnsInHanded {} Try.checked os 5 .any (Rows.pipeOrderSpec.pre6 enc Try.prog Try.f5 Rows.pipeOrderRow.domain false) (Rows.pipeOrderSpec.post enc Try.prog Try.f5 false true false false) := by
  refine returnsInHanded_of_change (C := Try.checked) own started (by kernel_rfl) Try.func5
    (ChangeSpec.witness6 (enc := enc) (C := Try.checked) false ⟨#[], #[.int .i64 0, .slice none 0 0, .slice none 0 0], []⟩ 8 (by kernel_rfl) (by kernel_rfl) (by kernel_rfl) (by kernel_rfl)) ?_
  intro W base args ds gs before hval0 hW hcnd _
  have hval : ∀ (j : Nat) t v, Try.f5.params[j]? = some t → args[j]? = some v → Value.okWide Try.prog W .any base t v := hval0
  have hW' := hW
  obtain ⟨p, q, hA0, hV, rfl, hfz, hnd⟩ := hW
  have hA : DataW.TrodAll enc Try.prog W 0 (fun _ => true) true Try.f5.params.toList args.toList ds p := hA0
  rw [Try.params5] at hA hval
  obtain ⟨v0, vs0, d0, ds0, p0, q0, hargs, rfl, rfl, h0, r0⟩ := trodAll_cons hA
  obtain ⟨v1, vs1, d1, ds1, p1, q1, rfl, rfl, rfl, h1, r1⟩ := trodAll_cons r0
  obtain ⟨v2, vs2, d2, ds2, p2, q2, rfl, rfl, rfl, h2, r2⟩ := trodAll_cons r1
  obtain ⟨rfl, rfl, rfl⟩ := trodAll_nil r2
  obtain rfl : args = #[v0, v1, v2] := by cases args; simp_all
  obtain ⟨rfl, rfl⟩ := trodVars_none hV
  obtain ⟨a0, rfl, rfl, rfl, w0⟩ := open_int Try.underlying3 (hval 0 3 v0 rfl rfl) h0
  obtain ⟨a1, len1, cap1, rfl⟩ := okWide_slice Try.underlying40 (hval 1 40 v1 rfl rfl)
  have k1 := h1
  have lt1 : ∀ x ∈ p1, x.block < W.heap.size := by obtain ⟨m, hm⟩ := k1; exact DataW.trod_lt m _ _ _ hm
  have w1 : ∀ k, k < len1 → ∃ b off s, a1 = some ⟨b, off, none⟩ ∧ W.cell? ⟨b, off + k, none⟩ = some (Value.string s) := by
    obtain ⟨fuel, hf⟩ := h1
    exact texts_of hf
  obtain ⟨a2, len2, cap2, rfl⟩ := okWide_slice Try.underlying41 (hval 2 41 v2 rfl rfl)
  have k2 := h2
  have lt2 : ∀ x ∈ p2, x.block < W.heap.size := by obtain ⟨m, hm⟩ := k2; exact DataW.trod_lt m _ _ _ hm
  have w2 : ∀ k, k < len2 → ∃ b off s, a2 = some ⟨b, off, none⟩ ∧ W.cell? ⟨b, off + k, none⟩ = some (Value.bool s) := by
    obtain ⟨fuel, hf⟩ := h2
    exact bools_of hf
  clear hA0 hval0
  refine (walk a0 a1 len1 cap1 a2 len2 cap2 W w1 w2).mono fun e W' ⟨he, bel⟩ => ?_
  subst he
  exact ⟨_, rfl, _, _, _, [], _, [], hW', trodAll_mk1 (shut_bool Try.underlying4 _), (trodAll_cons_mk (shut_int Try.underlying3 w0) (trodAll_cons_mk (Below.trod laidOut (by kernel_rfl) (of_decide_eq_true (by kernel_rfl)) k1 bel lt1) (trodAll_cons_mk (Below.trod laidOut (by kernel_rfl) (of_decide_eq_true (by kernel_rfl)) k2 bel lt2) trodAll_mk0))), rfl, bel.frame _, fun h => by cases h⟩

theorem over : Rows.pipeOrderRow.holds Try.pinned (OpenSpec.ofChange Rows.pipeOrderSpec) :=
  OpenClaim.holds_of_wide 5 Try.f5 rfl rfl rfl rfl rfl rfl rfl ⟨rfl, rfl, rfl, rfl, rfl⟩ rfl rfl rfl rfl rfl (by kernel_rfl) Try.func5 (by kernel_rfl)
    (of_decide_eq_true (by kernel_rfl)) (by unfold Func.isWrapper; first | (rw [if_pos (by decide +kernel)]; kernel_rfl) | (rw [if_neg (by decide +kernel)]; exact ⟨rfl, rfl⟩))
    (fun os started H enc _ => lifted os started H enc)

end Go.Proofs.Ytigpbkgcfnmdiaa.pipeOrder

namespace Go.Proofs.Ytigpbkgcfnmdiaa
theorem pipeOrder_holds : Rows.PipeOrderSaid := pipeOrder.over
#print axioms pipeOrder_holds
end Go.Proofs.Ytigpbkgcfnmdiaa
