/-
  el, bounds, scope and place of the laws.
-/
import Derived.Test.YtpadnfpifldoaaaRa
namespace Go.Proofs.Ytpadnfpifldoaaa.Ints
open Go.RowKit
set_option linter.unusedSimpArgs false

/-- A call that came in: Kind, H, N, M, SVG. -/
abbrev Ask := Int × Int × Int × Int × Bool
def av (a : Ask) : Value := .agg #[.int .i64 a.1, .int .i64 a.2.1, .int .i64 a.2.2.1, .int .i64 a.2.2.2.1, .bool a.2.2.2.2]
def ac (a : Ask) : Array Value := #[.int .i64 a.1, .int .i64 a.2.1, .int .i64 a.2.2.1, .int .i64 a.2.2.2.1, .bool a.2.2.2.2]
/-- The element of an ask. -/
def elF (a : Ask) : It := (a.2.1, if a.2.2.2.2 then 2 else 1, nm a.2.2.1)

set_option maxHeartbeats 2000000 in
theorem el_any (w : World) (a : Ask) : Calls Try.prog 12 #[av a] w fun e w' => e = .returned (iv (elF a)) ∧ Kp [] w w' := by
  obtain ⟨kd, hd, n, m, svg⟩ := a
  unfold av elF iv
  simp only
  obtain ⟨X, hX⟩ : ∃ X, nm n = X := ⟨_, rfl⟩
  have HN : Hid (∀ W, Calls Try.prog 18 #[.int .i64 n] W fun e w' => e = .returned (.string X) ∧ Kp [] W w') := fun W => by rw [← hX]; exact names_any W n
  rw [hX]
  clear hX
  obtain ⟨NS, hNS⟩ : ∃ x : Int, (if svg = true then (2 : Int) else 1) = x := ⟨_, rfl⟩
  rw [hNS]
  obtain ⟨w1, hw1⟩ : ∃ w1, w1 = (w.alloc (.cells #[.int .i64 kd, .int .i64 hd, .int .i64 n, .int .i64 m, .bool svg] 26)).alloc (.cells #[.int .i64 0, .int .i64 0, .string ⟨#[]⟩, .slice none 0 0] 36) := ⟨_, rfl⟩
  have k1 : Kp [] w w1 := by rw [hw1]; exact ((Kp.refl _ _).alloc _).alloc _
  have ha : w1.heap[w.heap.size]? = some (.cells #[.int .i64 kd, .int .i64 hd, .int .i64 n, .int .i64 m, .bool svg] 26 (0, 0)) := by
    rw [hw1, Below.heap_alloc _ _ _ (by simp)]
    exact heap_new _ _
  have hr : w1.heap[w.heap.size + 1]? = some (.cells #[.int .i64 0, .int .i64 0, .string ⟨#[]⟩, .slice none 0 0] 36 (0, 0)) := by
    rw [hw1]
    exact heap_new' _ _ _ (by simp)
  have CC : Hid (∀ W, Kp [w.heap.size + 1] w1 W → W.cell? ⟨w.heap.size, 1, none⟩ = some (.int .i64 hd) ∧ W.cell? ⟨w.heap.size, 2, none⟩ = some (.int .i64 n)) := fun W k => by
    have h2 := (k.block _ (lt_of ha) (by simp)).trans ha
    exact ⟨cell_of h2 1, cell_of h2 2⟩
  have RC : Hid (∀ W, Kp [] w1 W → _) := fun W (k : Kp [] w1 W) => res_cells W (w.heap.size + 1) ((k.block _ (lt_of hr) (by simp)).trans hr)
  have RP : Hid (∀ W ns, Kp [] w1 W → _) := fun W ns (k : Kp [] w1 W) => res_put w W (w.heap.size + 1) _ ((hd, ns, X) : It) (k1.trans k (fun y hy => by simp at hy)) ((k.block _ (lt_of hr) (by simp)).trans hr) (by omega) rfl
  have e1 : (w.alloc (.cells #[.int .i64 kd, .int .i64 hd, .int .i64 n, .int .i64 m, .bool svg] 26)).heap.size = w.heap.size + 1 := by simp
  have a4 : w1.cell? ⟨w.heap.size, 4, none⟩ = some (.bool svg) := cell_of ha 4
  have KR : Hid (∀ W, Kp [] w1 W → ∀ a b c d, Kp [w.heap.size + 1] w1 ((((W.setCell ⟨w.heap.size + 1, 0, none⟩ a).setCell ⟨w.heap.size + 1, 1, none⟩ b).setCell ⟨w.heap.size + 1, 2, none⟩ c).setCell ⟨w.heap.size + 1, 3, none⟩ d)) := fun W k a b c d =>
    Kp.setCell (Kp.setCell (Kp.setCell (Kp.setCell (k.mono (fun x hx => by simp at hx)) (Or.inl (by simp)) _) (Or.inl (by simp)) _) (Or.inl (by simp)) _) (Or.inl (by simp)) _
  clear ha hr k1
  cases svg
  all_goals
    simp only [Bool.false_eq_true, if_false, if_true] at hNS
    subst hNS
    go_enter Try.func12, Try.ntmps12
    go_upto_region 2 with fail
    rw [← hw1]
    clear hw1
    go_wp2_with fail
    go_region_held3 (fun V => V.cell? ⟨w.heap.size, 1, none⟩ = some (.int .i64 hd) ∧ V.cell? ⟨w.heap.size, 2, none⟩ = some (.int .i64 n))
      (first | with_reducible exact CC.out _ (KR.out _ S1.out _ _ _ _) | with_reducible exact CC.out _ ((S1.out).mono (fun x hx => by simp at hx)) | exact CC.out _ ((Kp.refl [] w1).drew.mono (fun x hx => by simp at hx)))
      (first | (go_at_call 18; refine (HN.out _).mono ?_; rintro e v1 ⟨rfl, kk⟩; have S1 : Hid (Kp [] w1 v1) := (Kp.refl [] w1).drew.trans kk (fun x hx => by simp at hx); clear kk; obtain ⟨d0, d1, d2, d3, e0, e1, e2, e3⟩ := RC.out v1 S1.out))
    all_goals (have Q2 := S1.out; clear S1 CC RC KR HN)
    all_goals first
      | (obtain ⟨W, hW, kW, f0, f1, f2, f3⟩ := RP.out v1 1 Q2
         have HW : Hid (W = _) := hW
         have KW : Hid (Kp [] w W) := kW
         clear hW kW RP Q2
         go_wp2
         rw [HW.out] at f0 f1 f2 f3
         refine bodyPost_ret (v := .agg #[.int .i64 hd, .int .i64 1, .string X, .slice none 0 0]) (by simp [results, go_sem, f0, f1, f2, f3]) rfl ⟨rfl, ?_⟩
         rw [← HW.out]
         exact KW.out)
      | (obtain ⟨W, hW, kW, f0, f1, f2, f3⟩ := RP.out v1 2 Q2
         have HW : Hid (W = _) := hW
         have KW : Hid (Kp [] w W) := kW
         clear hW kW RP Q2
         go_wp2
         rw [HW.out] at f0 f1 f2 f3
         refine bodyPost_ret (v := .agg #[.int .i64 hd, .int .i64 2, .string X, .slice none 0 0]) (by simp [results, go_sem, f0, f1, f2, f3]) rfl ⟨rfl, ?_⟩
         rw [← HW.out]
         exact KW.out)

end Go.Proofs.Ytpadnfpifldoaaa.Ints
