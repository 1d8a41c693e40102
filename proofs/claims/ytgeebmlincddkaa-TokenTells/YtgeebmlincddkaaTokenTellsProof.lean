/-
  TokenTells, at every two tokens and every list of tokens: true is returned, and what came in reads as before. No condition.
-/
import Derived.Test.YtgeebmlincddkaaRows
import Derived.WalkKit
import Derived.ProofKit
import Derived.OpenShut
import Derived.ShutString
import Derived.ChangeOld
import Derived.Below
import Derived.SizedLaws
import Derived.Test.YtgeebmlincddkaaTells
import Derived.Test.YtgeebmlincddkaaCame
namespace Go.Proofs.Ytgeebmlincddkaa.tokenTells
open Go.ChangeShapes Go.WideShapes Go.ChangeAt Go.RowKit
open Go.ChangeMaps (open_string shut_string)
set_option linter.unusedVariables false

theorem own : ownKnob Try.prog.godebug = none := by kernel_rfl
theorem laidOut : laidOutB Try.prog = true := by kernel_rfl

/-- The walk: true is returned, and nothing that was there is written. -/
theorem walk (w : World) (p0 : Q) (r0 : At w p0) (b0 : p0.2.2.1 ≤ 140737488355328) (p1 : Q) (r1 : At w p1) (b1 : p1.2.2.1 ≤ 140737488355328) (o2 : Option Addr) (n2 c2 : Nat) (q2 : List Q) (r2 : Rq w o2 n2 c2 q2) (b2 : n2 ≤ 140737488355328) (e2 : c2 ≤ 140737488355328) (g2 : ∀ p, p ∈ q2 → At w p ∧ p.2.2.1 ≤ 140737488355328) :
    Calls Try.prog 4 #[qv p0, qv p1, .slice o2 n2 c2] w fun e w' => e = .returned (.bool true) ∧ Below w.heap.size w w' := by
  refine (tells_any w p0 p1 r0 r1 b0 b1 o2 n2 c2 q2 r2 b2 g2).mono ?_
  rintro e w' ⟨rfl, hk⟩
  exact ⟨rfl, hk.below _ (Nat.le_refl _) (fun x hx => by simp at hx)⟩

set_option maxRecDepth 100000 in
theorem lifted (os : Os) (started : os.Started) (H : Type) (enc : TypeId × Value → H) :
    ReturnsInHanded {} Try.checked os 4 .any (Rows.tokenTellsSpec.pre6 enc Try.prog Try.f4 Rows.tokenTellsRow.domain false) (Rows.tokenTellsSpec.post enc Try.prog Try.f4 false true false false) := by
  refine returnsInHanded_of_change_sized (C := Try.checked) own started (by kernel_rfl) Try.func4
    (ChangeSpec.witness6 (enc := enc) (C := Try.checked) false ⟨#[], #[.agg #[.int .i64 0, .string ⟨#[]⟩, .slice none 0 0, .bool false, .string ⟨#[]⟩], .agg #[.int .i64 0, .string ⟨#[]⟩, .slice none 0 0, .bool false, .string ⟨#[]⟩], .slice none 0 0], []⟩ 8 (by kernel_rfl) (by kernel_rfl) (by kernel_rfl) (by kernel_rfl)) ?_
  intro W base args ds gs before hval0 hW hcnd hsz0 _
  have hval : ∀ (j : Nat) t v, Try.f4.params[j]? = some t → args[j]? = some v → Value.okWide Try.prog W .any base t v := hval0
  have hW' := hW
  obtain ⟨p, q, hA0, hV, rfl, hfz, hnd⟩ := hW
  have hA : DataW.TrodAll enc Try.prog W 0 (fun _ => true) true Try.f4.params.toList args.toList ds p := hA0
  rw [Try.params4] at hA hval
  obtain ⟨v0, vs0, d0, ds0, p0, q0, hargs, rfl, rfl, h0, t0⟩ := trodAll_cons hA
  obtain ⟨v1, vs1, d1, ds1, p1, q1, rfl, rfl, rfl, h1, t1⟩ := trodAll_cons t0
  obtain ⟨v2, vs2, d2, ds2, p2, q2, rfl, rfl, rfl, h2, t2⟩ := trodAll_cons t1
  obtain ⟨rfl, rfl, rfl⟩ := trodAll_nil t2
  obtain rfl : args = #[v0, v1, v2] := by cases args; simp_all
  obtain ⟨rfl, rfl⟩ := trodVars_none hV
  have hsz : (DataW.weightsEach Try.prog [24, 24, 28] [d0, d1, d2]).all (· ≤ reachBytes) = true := by
    have := hsz0
    rw [Try.params4] at this
    exact this
  have z0 : ∀ n, n ∈ d0.weights Try.prog 24 → n ≤ reachBytes := fun n hn => by
    have := List.all_eq_true.1 hsz n (DataW.weights_mem_each (j := 0) rfl rfl n hn)
    simpa using this
  have y0 := h0
  have x0 : ∀ x ∈ p0, x.block < W.heap.size := by obtain ⟨m, hm⟩ := y0; exact DataW.trod_lt m _ _ _ hm
  obtain ⟨p_0, rfl, r0, b0⟩ := tok_of (hval 0 24 v0 rfl rfl) h0 z0
  have z1 : ∀ n, n ∈ d1.weights Try.prog 24 → n ≤ reachBytes := fun n hn => by
    have := List.all_eq_true.1 hsz n (DataW.weights_mem_each (j := 1) rfl rfl n hn)
    simpa using this
  have y1 := h1
  have x1 : ∀ x ∈ p1, x.block < W.heap.size := by obtain ⟨m, hm⟩ := y1; exact DataW.trod_lt m _ _ _ hm
  obtain ⟨p_1, rfl, r1, b1⟩ := tok_of (hval 1 24 v1 rfl rfl) h1 z1
  have z2 : ∀ n, n ∈ d2.weights Try.prog 28 → n ≤ reachBytes := fun n hn => by
    have := List.all_eq_true.1 hsz n (DataW.weights_mem_each (j := 2) rfl rfl n hn)
    simpa using this
  have y2 := h2
  have x2 : ∀ x ∈ p2, x.block < W.heap.size := by obtain ⟨m, hm⟩ := y2; exact DataW.trod_lt m _ _ _ hm
  obtain ⟨o2, n2, c2, rfl⟩ := okWide_slice Try.underlying28 (hval 2 28 v2 rfl rfl)
  obtain ⟨q_2, r2, b2, e2, g2⟩ := toks_of h2 z2
  clear hA0 hval0 hsz0
  refine (walk W p_0 r0 b0 p_1 r1 b1 o2 n2 c2 q_2 r2 b2 e2 g2).mono fun e W' ⟨he, bel⟩ => ?_
  subst he
  exact ⟨_, rfl, _, _, _, [], _, [], hW', trodAll_mk1 (shut_bool Try.underlying4 _), (trodAll_cons_mk (Below.trod laidOut (by kernel_rfl) (of_decide_eq_true (by kernel_rfl)) y0 bel x0) (trodAll_cons_mk (Below.trod laidOut (by kernel_rfl) (of_decide_eq_true (by kernel_rfl)) y1 bel x1) (trodAll_cons_mk (Below.trod laidOut (by kernel_rfl) (of_decide_eq_true (by kernel_rfl)) y2 bel x2) trodAll_mk0))), rfl, bel.frame _, fun h => by cases h⟩

theorem over : Rows.tokenTellsRow.holds Try.pinned (OpenSpec.ofChange Rows.tokenTellsSpec) :=
  OpenClaim.holds_of_wide 4 Try.f4 rfl rfl rfl rfl rfl rfl rfl ⟨rfl, rfl, rfl, rfl, rfl⟩ rfl rfl rfl rfl rfl (by kernel_rfl) Try.func4 (by kernel_rfl)
    (of_decide_eq_true (by kernel_rfl)) (by unfold Func.isWrapper; first | (rw [if_pos (by decide +kernel)]; kernel_rfl) | (rw [if_neg (by decide +kernel)]; exact ⟨rfl, rfl⟩))
    (fun os started H enc _ => lifted os started H enc)

end Go.Proofs.Ytgeebmlincddkaa.tokenTells

namespace Go.Proofs.Ytgeebmlincddkaa
theorem tokenTells_holds : Rows.TokenTellsSaid := tokenTells.over
#print axioms tokenTells_holds
end Go.Proofs.Ytgeebmlincddkaa
