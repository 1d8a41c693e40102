/-
  do of the laws: kinds 9.
-/
import Derived.Test.YtpadnfpifldoaaaDn
namespace Go.Proofs.Ytpadnfpifldoaaa.Ints
open Go.RowKit
set_option linter.unusedSimpArgs false
set_option linter.unusedVariables false

set_option maxRecDepth 100000 in
set_option maxHeartbeats 4000000 in
theorem do_9 (w0 w : World) (q : Nat) (zs : List It) (bo : Option Addr) (n d : Nat) (H N M : Int) (svg : Bool) (hL : Li w0 w q zs) (hz : Rs w bo n d zs) (hl : zs.length < 900) :
    Calls Try.prog 9 #[.pointer (some ⟨q, 0, none⟩), .slice bo n d, .agg #[.int .i64 9, .int .i64 H, .int .i64 N, .int .i64 M, .bool svg]] w (Dn w0 w q zs) := by
  obtain rfl : n = zs.length := hz.len
  have hcap := hz.cap
  obtain ⟨w1, hw1⟩ : ∃ w1, w1 = w.alloc (.cells #[.int .i64 9, .int .i64 H, .int .i64 N, .int .i64 M, .bool svg] 26) := ⟨_, rfl⟩
  have k1 : Kp [] w w1 := by rw [hw1]; exact (Kp.refl _ _).alloc _
  have hb1 : w1.heap[w.heap.size]? = some (.cells #[.int .i64 9, .int .i64 H, .int .i64 N, .int .i64 M, .bool svg] 26 (0, 0)) := by rw [hw1]; exact heap_new _ _
  obtain ⟨ga, hga⟩ : ∃ g, g = w.heap.size := ⟨_, rfl⟩
  rw [← hga] at hb1
  have HA : Hid (∀ W, Ev w0 w1 W → W.cell? ⟨ga, 0, none⟩ = some (.int .i64 9) ∧ W.cell? ⟨ga, 1, none⟩ = some (.int .i64 H) ∧ W.cell? ⟨ga, 2, none⟩ = some (.int .i64 N) ∧ W.cell? ⟨ga, 3, none⟩ = some (.int .i64 M) ∧ W.cell? ⟨ga, 4, none⟩ = some (.bool svg)) := fun W e => by
    have h2 := e.cells _ _ _ hb1 not_pil_ask
    exact ⟨cell_of h2 0, cell_of h2 1, cell_of h2 2, cell_of h2 3, cell_of h2 4⟩
  have HE1 : Hid (∀ W, Ev w0 w1 W → Ev w0 w W) := fun W e => (Ev.of_kp k1).trans e
  have l1 := hL.kept k1
  have z1 := hz.kept k1
  have HL : Hid (∀ W, Kp [] w1 W → Li w0 W q zs) := fun W kW => l1.kept kW
  have HZ : Hid (∀ W, Kp [] w1 W → Rs W bo zs.length d zs) := fun W kW => z1.kept kW
  have HLp : Hid (∀ W, Kp [] w1 W → Calls Try.prog 35 #[.slice bo zs.length d, .int .i64 H] W fun e w' => e = .returned (.int .i64 (plc (eqh H) zs)) ∧ w' = W) := fun W kW => lplace_any W zs H bo zs.length d (z1.kept kW) (by omega)
  have HPr : Hid (-1 ≤ plc (eqh H) zs ∧ plc (eqh H) zs < zs.length) := plc_range (eqh H) zs
  obtain ⟨PK, hPK⟩ : ∃ k, plc (eqh H) zs = k := ⟨_, rfl⟩
  rw [hPK] at HLp HPr
  have HPK : Hid (plc (eqh H) zs = PK) := hPK
  obtain ⟨X, hX⟩ : ∃ X, nm N = X := ⟨_, rfl⟩
  obtain ⟨Y, hY⟩ : ∃ Y, nm M = Y := ⟨_, rfl⟩
  have HNx : Hid (∀ W, Calls Try.prog 18 #[.int .i64 N] W fun e w' => e = .returned (.string X) ∧ Kp [] W w') := fun W => by rw [← hX]; exact names_any W N
  have HNy : Hid (∀ W, Calls Try.prog 18 #[.int .i64 M] W fun e w' => e = .returned (.string Y) ∧ Kp [] W w') := fun W => by rw [← hY]; exact names_any W M
  have HC2 : Hid (∀ W, Kp [] w1 W → W.cell? ⟨ga, 2, none⟩ = some (.int .i64 N) ∧ W.cell? ⟨ga, 3, none⟩ = some (.int .i64 M)) := fun W kW => by
    obtain ⟨_, _, c2, c3, _⟩ := HA.out W (Ev.of_kp kW)
    exact ⟨c2, c3⟩
  have HHL : Hid (zs.length < 900) := hl
  clear l1 z1 k1 hb1 hL hz hPK hX hY
  go_enter Try.func9, Try.ntmps9
  go_upto_region 1 with fail
  rw [← hw1, ← hga]
  clear hw1 hga
  obtain ⟨U0, hU0⟩ : ∃ V, V = w1.drew := ⟨_, rfl⟩
  have K0 : Hid (Kp [] w1 U0) := by rw [hU0]; exact (Kp.refl _ _).drew
  refine wp_region_g (S := fun V => V.cell? ⟨ga, 2, none⟩ = some (.int .i64 N) ∧ V.cell? ⟨ga, 3, none⟩ = some (.int .i64 M)) (T := []) (by kernel_rfl) (HC2.out _ (Kp.refl [] w1).drew) (fun hHeld => ?_)
  rw [← hU0] at hHeld ⊢
  clear hU0
  refine g_pure 0 (some 18) (.fieldAddr 26 (.tmp 5) 2) ?_
  refine g_take 1 (some 19) (.load 3 (.tmp 18)) (by intro w hSw; (obtain ⟨s0, s1⟩ := hSw); go_simp; try with_reducible rfl) ?_
  refine g_pure 3 (some 21) (.fieldAddr 26 (.tmp 5) 3) ?_
  refine g_take 4 (some 22) (.load 3 (.tmp 21)) (by intro w hSw; (obtain ⟨s0, s1⟩ := hSw); go_simp; try with_reducible rfl) ?_
  refine wpAnyG_ready (rs := [2]) (by kernel_rfl) (by simp) ?_
  refine AllReadyG.cons (o := ⟨some 20, .call { callee := .value (.func 18), args := #[.tmp 19], argTypes := #[3] }, 9, _, _, none⟩) rfl (fun K hK => ?_) AllReadyG.nil
  go_simp
  go_at_call 18
  refine (HNx.out U0).mono ?_
  rintro e U1 ⟨rfl, kk⟩
  have K1 : Hid (Kp [] w1 U1) := kt K0.out kk
  clear kk
  go_wp2_with fail
  refine hK.out _ _ (HC2.out _ K1.out) (fun hHeld1 => ?_)
  clear hK K hHeld
  try simp only [Act.put, pu1, pu2, pu3]
  refine wpAnyG_ready (rs := [5]) (by kernel_rfl) (by simp) ?_
  refine AllReadyG.cons (o := ⟨some 23, .call { callee := .value (.func 18), args := #[.tmp 22], argTypes := #[3] }, 9, _, _, none⟩) rfl (fun K hK => ?_) AllReadyG.nil
  go_simp
  go_at_call 18
  refine (HNy.out U1).mono ?_
  rintro e U2 ⟨rfl, kk⟩
  have K2 : Hid (Kp [] w1 U2) := kt K1.out kk
  clear kk
  go_wp2_with fail
  refine hK.out _ _ (HC2.out _ K2.out) (fun hHeld2 => ?_)
  clear hK K hHeld1
  try simp only [Act.put, pu1, pu2, pu3]
  refine g_pure 6 (some 8) (.assign (.tmp 20)) ?_
  refine g_pure 7 (some 9) (.assign (.tmp 23)) ?_
  refine wpAnyG_free (by kernel_rfl) ?_
  refine wpAny_done (by kernel_rfl) ?_ _
  skip
  obtain ⟨c0, c1, c2, c3, c4⟩ := HA.out U2 (Ev.of_kp K2.out)
  have HP2 := HLp.out U2 K2.out
  have lU := HL.out U2 K2.out
  have zU := HZ.out U2 K2.out
  have EU : Hid (Ev w0 w1 U2) := Ev.of_kp K2.out
  clear HLp HNx HNy HC2 HL HZ K0 K1 K2
  go_wp2_with fail
  refine HP2.mono ?_
  rintro e w9 ⟨rfl, hw⟩
  have hw2 := hw.symm
  clear hw
  subst hw2
  clear HP2
  have kA : Kp [] U2 (U2.alloc (.cells #[.string X, .string Y] 9)) := (Kp.refl _ _).alloc _
  have H3 := clear_list w0 (U2.alloc (.cells #[.string X, .string Y] 9)) q zs [X, Y] U2.heap.size 2 (lU.kept kA) (heap_new _ _) rfl (by omega) (by have := HHL.out; omega)
  have EV : Hid (Ev w0 w1 (U2.alloc (.cells #[.string X, .string Y] 9))) := EU.out.back kA
  have ZV : Hid (Rs (U2.alloc (.cells #[.string X, .string Y] 9)) bo zs.length d zs) := zU.kept kA
  clear kA
  clear lU zU EU
  go_wp2_with fail
  refine H3.mono ?_
  rintro e w3 ⟨rfl, l3, e3⟩
  have f3 := EV.out.trans e3
  have z3 := ZV.out.ev e3
  have k4 : Kp [] w3 (w3.alloc (.cells #[.string X, .string Y] 9)) := (Kp.refl _ _).alloc _
  have H4 := drop_clear (w3.alloc (.cells #[.string X, .string Y] 9)) zs [X, Y] (some ⟨w3.heap.size, 0, none⟩) 2 2 bo zs.length d (z3.kept k4) (rb_ev (w0 := w0) (xs := tx [X, Y]) (heap_new _ _) rfl (Nat.le_refl _) (Ev.refl _ _)) (by omega) (by have := HHL.out; omega)
  have HF : Hid (∀ W j, Kp [] (w3.alloc (.cells #[.string X, .string Y] 9)) W → j ≤ zs.length → zs.take j = popW (goC [X, Y]) zs → Li w0 W q (zs.take j) ∧ Rs W bo j d (zs.take j) ∧ Ev w0 w1 W ∧ (zs.take j).length ≤ zs.length + 1) := fun W j kW hj ht =>
    ⟨by rw [ht]; exact l3.kept (k4.trans kW (fun y hy => by simp at hy)), (z3.kept (k4.trans kW (fun y hy => by simp at hy))).take j hj, (f3.back k4).back kW, by rw [List.length_take]; omega⟩
  clear H3 l3 e3 f3 z3 k4 EV ZV
  go_wp2_with fail
  refine H4.mono ?_
  rintro e w5 ⟨j, rfl, hj, ht, k5⟩
  have HD := Hid.mk (HF.out w5 j k5 hj ht)
  have hjd : j ≤ d := by omega
  clear H4 HF ht k5
  obtain ⟨lT, zT, eT, bT⟩ := HD.out
  have HTl := tells_any w0 w5 q (zs.take j) bo j d (9, H, N, M, svg) lT zT (by have := HHL.out; omega)
  unfold av at HTl
  simp only at HTl
  obtain ⟨c0, c1, c2, c3, c4⟩ := HA.out _ eT
  have HFin : Hid (∀ W, Kp [] w5 W → Dn w0 w q zs (.returned (.tuple #[.slice bo j d, .bool true])) W) := fun W kW => ⟨_, _, _, (zs.take j), rfl, lT.kept kW, zT.kept kW, (HE1.out _ eT).back kW, bT⟩
  clear lT zT eT bT HA HE1 HD
  go_wp2_with fail
  refine HTl.mono ?_
  rintro e w8 ⟨rfl, k8⟩
  have HF8 := Hid.mk (HFin.out w8 k8)
  clear HTl HFin k8
  go_wp2
  go_ret2
  exact HF8.out
end Go.Proofs.Ytpadnfpifldoaaa.Ints
