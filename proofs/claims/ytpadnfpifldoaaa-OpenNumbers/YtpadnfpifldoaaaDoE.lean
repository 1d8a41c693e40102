/-
  do of the laws: kind 1.
-/
import Derived.Test.YtpadnfpifldoaaaDn
namespace Go.Proofs.Ytpadnfpifldoaaa.Ints
open Go.RowKit
set_option linter.unusedSimpArgs false
set_option linter.unusedVariables false

set_option maxRecDepth 100000 in
set_option maxHeartbeats 4000000 in
theorem do_1 (w0 w : World) (q : Nat) (zs : List It) (bo : Option Addr) (n d : Nat) (H N M : Int) (svg : Bool) (hL : Li w0 w q zs) (hz : Rs w bo n d zs) (hl : zs.length < 900) :
    Calls Try.prog 9 #[.pointer (some ⟨q, 0, none⟩), .slice bo n d, .agg #[.int .i64 1, .int .i64 H, .int .i64 N, .int .i64 M, .bool svg]] w (Dn w0 w q zs) := by
  obtain rfl : n = zs.length := hz.len
  have hcap := hz.cap
  obtain ⟨w1, hw1⟩ : ∃ w1, w1 = w.alloc (.cells #[.int .i64 1, .int .i64 H, .int .i64 N, .int .i64 M, .bool svg] 26) := ⟨_, rfl⟩
  have k1 : Kp [] w w1 := by rw [hw1]; exact (Kp.refl _ _).alloc _
  have hb1 : w1.heap[w.heap.size]? = some (.cells #[.int .i64 1, .int .i64 H, .int .i64 N, .int .i64 M, .bool svg] 26 (0, 0)) := by rw [hw1]; exact heap_new _ _
  obtain ⟨ga, hga⟩ : ∃ g, g = w.heap.size := ⟨_, rfl⟩
  rw [← hga] at hb1
  have HA : Hid (∀ W, Ev w0 w1 W → W.cell? ⟨ga, 0, none⟩ = some (.int .i64 1) ∧ W.cell? ⟨ga, 1, none⟩ = some (.int .i64 H) ∧ W.cell? ⟨ga, 2, none⟩ = some (.int .i64 N) ∧ W.cell? ⟨ga, 3, none⟩ = some (.int .i64 M) ∧ W.cell? ⟨ga, 4, none⟩ = some (.bool svg)) := fun W e => by
    have h2 := e.cells _ _ _ hb1 not_pil_ask
    exact ⟨cell_of h2 0, cell_of h2 1, cell_of h2 2, cell_of h2 3, cell_of h2 4⟩
  have HE1 : Hid (∀ W, Ev w0 w1 W → Ev w0 w W) := fun W e => (Ev.of_kp k1).trans e
  have l1 := hL.kept k1
  have z1 := hz.kept k1
  have HL : Hid (∀ W, Kp [] w1 W → Li w0 W q zs) := fun W kW => l1.kept kW
  have HZ : Hid (∀ W, Kp [] w1 W → Rs W bo zs.length d zs) := fun W kW => z1.kept kW
  have HLp : Hid (∀ W, Kp [] w1 W → Calls Try.prog 35 #[.slice bo zs.length d, .int .i64 H] W fun e w' => e = .returned (.int .i64 (plc (eqh H) zs)) ∧ w' = W) := fun W kW => lplace_any W zs H bo zs.length d (z1.kept kW) (by omega)
  have HPr : Hid (-1 ≤ plc (eqh H) zs ∧ plc (eqh H) zs < zs.length) := plc_range (eqh H) zs
  obtain ⟨PK, hPK⟩ : ∃ k, plc (eqh H) zs = k := ⟨_, rfl⟩
  rw [hPK] at HLp HPr
  have HPK : Hid (plc (eqh H) zs = PK) := hPK
  obtain ⟨X, hX⟩ : ∃ X, nm N = X := ⟨_, rfl⟩
  obtain ⟨Y, hY⟩ : ∃ Y, nm M = Y := ⟨_, rfl⟩
  have HNx : Hid (∀ W, Calls Try.prog 18 #[.int .i64 N] W fun e w' => e = .returned (.string X) ∧ Kp [] W w') := fun W => by rw [← hX]; exact names_any W N
  have HNy : Hid (∀ W, Calls Try.prog 18 #[.int .i64 M] W fun e w' => e = .returned (.string Y) ∧ Kp [] W w') := fun W => by rw [← hY]; exact names_any W M
  have HC2 : Hid (∀ W, Kp [] w1 W → W.cell? ⟨ga, 2, none⟩ = some (.int .i64 N) ∧ W.cell? ⟨ga, 3, none⟩ = some (.int .i64 M)) := fun W kW => by
    obtain ⟨_, _, c2, c3, _⟩ := HA.out W (Ev.of_kp kW)
    exact ⟨c2, c3⟩
  have HHL : Hid (zs.length < 900) := hl
  clear l1 z1 k1 hb1 hL hz hPK hX hY
  go_enter Try.func9, Try.ntmps9
  go_upto_region 1 with fail
  rw [← hw1, ← hga]
  clear hw1 hga
  obtain ⟨U0, hU0⟩ : ∃ V, V = w1.drew := ⟨_, rfl⟩
  have K0 : Hid (Kp [] w1 U0) := by rw [hU0]; exact (Kp.refl _ _).drew
  refine wp_region_g (S := fun V => V.cell? ⟨ga, 2, none⟩ = some (.int .i64 N) ∧ V.cell? ⟨ga, 3, none⟩ = some (.int .i64 M)) (T := []) (by kernel_rfl) (HC2.out _ (Kp.refl [] w1).drew) (fun hHeld => ?_)
  rw [← hU0] at hHeld ⊢
  clear hU0
  refine g_pure 0 (some 18) (.fieldAddr 26 (.tmp 5) 2) ?_
  refine g_take 1 (some 19) (.load 3 (.tmp 18)) (by intro w hSw; (obtain ⟨s0, s1⟩ := hSw); go_simp; try with_reducible rfl) ?_
  refine g_pure 3 (some 21) (.fieldAddr 26 (.tmp 5) 3) ?_
  refine g_take 4 (some 22) (.load 3 (.tmp 21)) (by intro w hSw; (obtain ⟨s0, s1⟩ := hSw); go_simp; try with_reducible rfl) ?_
  refine wpAnyG_ready (rs := [2]) (by kernel_rfl) (by simp) ?_
  refine AllReadyG.cons (o := ⟨some 20, .call { callee := .value (.func 18), args := #[.tmp 19], argTypes := #[3] }, 9, _, _, none⟩) rfl (fun K hK => ?_) AllReadyG.nil
  go_simp
  go_at_call 18
  refine (HNx.out U0).mono ?_
  rintro e U1 ⟨rfl, kk⟩
  have K1 : Hid (Kp [] w1 U1) := kt K0.out kk
  clear kk
  go_wp2_with fail
  refine hK.out _ _ (HC2.out _ K1.out) (fun hHeld1 => ?_)
  clear hK K hHeld
  try simp only [Act.put, pu1, pu2, pu3]
  refine wpAnyG_ready (rs := [5]) (by kernel_rfl) (by simp) ?_
  refine AllReadyG.cons (o := ⟨some 23, .call { callee := .value (.func 18), args := #[.tmp 22], argTypes := #[3] }, 9, _, _, none⟩) rfl (fun K hK => ?_) AllReadyG.nil
  go_simp
  go_at_call 18
  refine (HNy.out U1).mono ?_
  rintro e U2 ⟨rfl, kk⟩
  have K2 : Hid (Kp [] w1 U2) := kt K1.out kk
  clear kk
  go_wp2_with fail
  refine hK.out _ _ (HC2.out _ K2.out) (fun hHeld2 => ?_)
  clear hK K hHeld1
  try simp only [Act.put, pu1, pu2, pu3]
  refine g_pure 6 (some 8) (.assign (.tmp 20)) ?_
  refine g_pure 7 (some 9) (.assign (.tmp 23)) ?_
  refine wpAnyG_free (by kernel_rfl) ?_
  refine wpAny_done (by kernel_rfl) ?_ _
  skip
  obtain ⟨c0, c1, c2, c3, c4⟩ := HA.out U2 (Ev.of_kp K2.out)
  have HP2 := HLp.out U2 K2.out
  have lU := HL.out U2 K2.out
  have zU := HZ.out U2 K2.out
  have EU : Hid (Ev w0 w1 U2) := Ev.of_kp K2.out
  clear HLp HNx HNy HC2 HL HZ K0 K1 K2
  go_wp2_with fail
  refine HP2.mono ?_
  rintro e w9 ⟨rfl, hw⟩
  have hw2 := hw.symm
  clear hw
  subst hw2
  clear HP2
  have HEl : Hid (∀ W, Calls Try.prog 12 #[.agg #[.int .i64 1, .int .i64 H, .int .i64 N, .int .i64 M, .bool svg]] W fun e w' => e = .returned (iv (elF (1, H, N, M, svg))) ∧ Kp [] W w') := fun W => el_any W (1, H, N, M, svg)
  obtain ⟨x, hx⟩ : ∃ x, elF (1, H, N, M, svg) = x := ⟨_, rfl⟩
  rw [hx] at HEl
  clear hx
  obtain ⟨xh, xn, xs⟩ := x
  unfold iv at HEl
  simp only at HEl
  have HPu : Hid (∀ W, Kp [] U2 W → Calls Try.prog 19 #[.pointer (some ⟨q, 0, none⟩), .agg #[.int .i64 xh, .int .i64 xn, .string xs, .slice none 0 0]] W fun e w' => e = .returned (.tuple #[]) ∧ Li w0 w' q (zs ++ [((xh, xn, xs) : It)]) ∧ Ev w0 W w') := fun W kW => push_list w0 W q zs (xh, xn, xs) (lU.kept kW) (by have := HHL.out; omega)
  have HF : Hid (∀ W V, Kp [] U2 W → Ev w0 W V → Rs V bo zs.length d zs ∧ Ev w0 w1 V) := fun W V kW e => ⟨(zU.kept kW).ev e, (EU.out.back kW).trans e⟩
  clear lU zU EU
  go_wp2_with fail
  refine (HEl.out U2).mono ?_
  rintro e w3 ⟨rfl, k3⟩
  have HP3 := HPu.out w3 k3
  have HF3 : Hid (∀ V, Ev w0 w3 V → Rs V bo zs.length d zs ∧ Ev w0 w1 V) := fun V e => HF.out w3 V k3 e
  clear HPu HF k3
  go_wp2_with fail
  refine HP3.mono ?_
  rintro e w4 ⟨rfl, l4, e4⟩
  obtain ⟨z4, f4⟩ := HF3.out w4 e4
  have CC : Hid (∀ W, Kp [] w4 W → W.cell? ⟨ga, 0, none⟩ = some (.int .i64 1) ∧ W.cell? ⟨ga, 1, none⟩ = some (.int .i64 H) ∧ W.cell? ⟨ga, 2, none⟩ = some (.int .i64 N) ∧ W.cell? ⟨ga, 3, none⟩ = some (.int .i64 M) ∧ W.cell? ⟨ga, 4, none⟩ = some (.bool svg)) := fun W kW => HA.out W (f4.back kW)
  have HSr : Hid (∀ W, Kp [] w4 W → Src Try.prog 4 24 (.slice bo zs.length d) zs.length (cz zs) W) := fun W kW => (z4.kept kW).src
  have HF : Hid (∀ W ao n' c', Kp [] w4 W → Rs W ao n' c' ([] ++ zs ++ [((xh, xn, xs) : It)]) → Li w0 W q ([] ++ zs ++ [((xh, xn, xs) : It)]) ∧ Rs W ao n' c' ([] ++ zs ++ [((xh, xn, xs) : It)]) ∧ Ev w0 w1 W ∧ ([] ++ zs ++ [((xh, xn, xs) : It)]).length ≤ zs.length + 1) := fun W ao n' c' kW rs => ⟨by rw [List.nil_append]; exact l4.kept kW, rs, f4.back kW, by simp⟩
  clear HP3 HF3 l4 e4 z4 f4 c0 c1 c2 c3 c4
  go_wp2_with fail
  obtain ⟨A0, hA0⟩ : ∃ V, V = w4.drew := ⟨_, rfl⟩
  have KA0 : Hid (Kp [] w4 A0) := by rw [hA0]; exact (Kp.refl _ _).drew
  refine wp_region_g (S := fun V => V.cell? ⟨ga, 0, none⟩ = some (.int .i64 1) ∧ V.cell? ⟨ga, 1, none⟩ = some (.int .i64 H) ∧ V.cell? ⟨ga, 2, none⟩ = some (.int .i64 N) ∧ V.cell? ⟨ga, 3, none⟩ = some (.int .i64 M) ∧ V.cell? ⟨ga, 4, none⟩ = some (.bool svg)) (T := []) (by kernel_rfl) (CC.out _ (Kp.refl [] w4).drew) (fun hHeld => ?_)
  rw [← hA0] at hHeld ⊢
  clear hA0
  refine g_pure 1 (some 37) (.move (.tmp 1)) ?_
  refine g_take 3 (some 39) (.load 26 (.tmp 5)) (by intro w hSw; (obtain ⟨s0, s1, s2, s3, s4⟩ := hSw); go_simp; try with_reducible rfl) ?_
  refine wpAnyG_ready (rs := [0]) (by kernel_rfl) (by simp) ?_
  refine AllReadyG.cons (o := ⟨some 36, .buildSlice 24 0 #[], 24, _, _, none⟩) rfl (fun K hK => ?_) AllReadyG.nil
  go_simp
  have M0 := Ms.empty A0
  obtain ⟨A1, hU⟩ : ∃ V, V = World.alloc A0 (.cells #[] 36) := ⟨_, rfl⟩
  rw [← hU] at M0 ⊢
  have KA1 : Hid (Kp [] w4 A1) := kt KA0.out M0.2.1
  obtain ⟨g0, hg0⟩ : ∃ g, A0.heap.size = g := ⟨_, rfl⟩
  rw [hg0] at M0 ⊢
  have B0 : Hid (Kp [] w4 A0) := KA0
  clear hU hg0
  refine hK.out _ _ (CC.out _ KA1.out) (fun hHeld1 => ?_)
  clear hK K hHeld
  try simp only [Act.put, pu1, pu2, pu3]
  refine wpAnyG_ready (rs := [2]) (by kernel_rfl) (by simp) ?_
  refine AllReadyG.cons (o := ⟨some 38, .call { callee := .builtin .append, args := #[.tmp 36, .tmp 37], argTypes := #[24, 24] }, 24, _, _, none⟩) rfl (fun K hK => ?_) AllReadyG.nil
  obtain ⟨a2, n2, c2, A2, run2, M2, ⟨a2a, rfl⟩, hn2, kk2⟩ := M0.app (HSr.out _ KA1.out) (by simp) (by have := HHL.out; omega)
  refine step_app2 (by rfl) _ _ 24 24 (by rfl) _ _ (by rfl) (by rfl) run2 ?_
  have KA2 : Hid (Kp [] w4 A2) := kt B0.out M2.2.1
  have HN2 : Hid (n2 = 0 + zs.length) := hn2
  clear run2 M0 kk2 hn2
  refine hK.out _ _ (CC.out _ KA2.out) (fun hHeld2 => ?_)
  clear hK K hHeld1
  try simp only [Act.put, pu1, pu2, pu3]
  refine wpAnyG_ready (rs := [4]) (by kernel_rfl) (by simp) ?_
  refine AllReadyG.cons (o := ⟨some 40, .call { callee := .value (.func 12), args := #[.tmp 39], argTypes := #[26] }, 36, _, _, none⟩) rfl (fun K hK => ?_) AllReadyG.nil
  go_simp
  go_at_call 12
  refine (HEl.out A2).mono ?_
  rintro e A3 ⟨rfl, kk⟩
  have KA3 : Hid (Kp [] w4 A3) := kt KA2.out kk
  have M4 := M2.kept kk
  clear kk M2
  go_wp2_with fail
  refine hK.out _ _ (CC.out _ KA3.out) (fun hHeld3 => ?_)
  clear hK K hHeld2
  try simp only [Act.put, pu1, pu2, pu3]
  refine wpAnyG_ready (rs := [5]) (by kernel_rfl) (by simp) ?_
  refine AllReadyG.cons (o := ⟨some 41, .buildSlice 24 1 #[(0, .tmp 40)], 24, _, _, none⟩) rfl (fun K hK => ?_) AllReadyG.nil
  go_simp
  have L5 : Src Try.prog 4 24 (.slice (some ⟨A3.heap.size, 0, none⟩) 1 1) 1 (cz [((xh, xn, xs) : It)]) (A3.alloc (.cells #[.int .i64 xh, .int .i64 xn, .string xs, .slice none 0 0] 36)) := (Ms.lit A3 ((xh, xn, xs) : It)).rs.src
  obtain ⟨A4, hU⟩ : ∃ V, V = World.alloc A3 (.cells #[.int .i64 xh, .int .i64 xn, .string xs, .slice none 0 0] 36) := ⟨_, rfl⟩
  rw [← hU] at L5 ⊢
  have kk : Kp [] A3 A4 := by rw [hU]; exact (Kp.refl _ _).alloc _
  have M5 := M4.kept kk
  have KA4 : Hid (Kp [] w4 A4) := kt KA3.out kk
  obtain ⟨g5, hg5⟩ : ∃ g, A3.heap.size = g := ⟨_, rfl⟩
  rw [hg5] at L5 ⊢
  clear hU hg5 kk M4
  refine hK.out _ _ (CC.out _ KA4.out) (fun hHeld4 => ?_)
  clear hK K hHeld3
  try simp only [Act.put, pu1, pu2, pu3]
  refine wpAnyG_ready (rs := [6]) (by kernel_rfl) (by simp) ?_
  refine AllReadyG.cons (o := ⟨some 42, .call { callee := .builtin .append, args := #[.tmp 38, .tmp 41], argTypes := #[24, 24] }, 24, _, _, none⟩) rfl (fun K hK => ?_) AllReadyG.nil
  obtain ⟨a6, n6, c6, A5, run6, M6, ⟨a6a, rfl⟩, hn6, kk6⟩ := M5.app L5 (fun h => by simp at h) (by have := HHL.out; have := HN2.out; omega)
  refine step_app2 (by rfl) _ _ 24 24 (by rfl) _ _ (by rfl) (by rfl) run6 ?_
  have KA5 : Hid (Kp [] w4 A5) := kt B0.out M6.2.1
  clear run6 M5 kk6 L5 hn6
  refine hK.out _ _ (CC.out _ KA5.out) (fun hHeld5 => ?_)
  clear hK K hHeld4
  try simp only [Act.put, pu1, pu2, pu3]
  refine g_pure 7 (some 1) (.assign (.tmp 42)) ?_
  refine wpAnyG_free (by kernel_rfl) ?_
  refine wpAny_done (by kernel_rfl) ?_ _
  skip
  have HD := Hid.mk (HF.out _ _ _ _ KA5.out M6.rs)
  clear HF CC HSr KA0 KA1 KA2 KA3 KA4 KA5 M6 B0 HEl HN2
  obtain ⟨lT, zT, eT, bT⟩ := HD.out
  have HTl := tells_any w0 A5 q ([] ++ zs ++ [((xh, xn, xs) : It)]) (some a6a) n6 c6 (1, H, N, M, svg) lT zT (by have := HHL.out; omega)
  unfold av at HTl
  simp only at HTl
  obtain ⟨c0, c1, c2, c3, c4⟩ := HA.out _ eT
  have HFin : Hid (∀ W, Kp [] A5 W → Dn w0 w q zs (.returned (.tuple #[.slice (some a6a) n6 c6, .bool true])) W) := fun W kW => ⟨_, _, _, ([] ++ zs ++ [((xh, xn, xs) : It)]), rfl, lT.kept kW, zT.kept kW, (HE1.out _ eT).back kW, bT⟩
  clear lT zT eT bT HA HE1 HD
  go_wp2_with fail
  refine HTl.mono ?_
  rintro e w8 ⟨rfl, k8⟩
  have HF8 := Hid.mk (HFin.out w8 k8)
  clear HTl HFin k8
  go_wp2
  go_ret2
  exact HF8.out
end Go.Proofs.Ytpadnfpifldoaaa.Ints
