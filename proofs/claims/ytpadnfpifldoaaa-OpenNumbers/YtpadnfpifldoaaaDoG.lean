/-
  do of the laws: kind 2.
-/
import Derived.Test.YtpadnfpifldoaaaDn
namespace Go.Proofs.Ytpadnfpifldoaaa.Ints
open Go.RowKit
set_option linter.unusedSimpArgs false
set_option linter.unusedVariables false

set_option maxRecDepth 100000 in
set_option maxHeartbeats 4000000 in
theorem do_2 (w0 w : World) (q : Nat) (zs : List It) (bo : Option Addr) (n d : Nat) (H N M : Int) (svg : Bool) (hL : Li w0 w q zs) (hz : Rs w bo n d zs) (hl : zs.length < 900) :
    Calls Try.prog 9 #[.pointer (some ⟨q, 0, none⟩), .slice bo n d, .agg #[.int .i64 2, .int .i64 H, .int .i64 N, .int .i64 M, .bool svg]] w (Dn w0 w q zs) := by
  obtain rfl : n = zs.length := hz.len
  have hcap := hz.cap
  obtain ⟨w1, hw1⟩ : ∃ w1, w1 = w.alloc (.cells #[.int .i64 2, .int .i64 H, .int .i64 N, .int .i64 M, .bool svg] 26) := ⟨_, rfl⟩
  have k1 : Kp [] w w1 := by rw [hw1]; exact (Kp.refl _ _).alloc _
  have hb1 : w1.heap[w.heap.size]? = some (.cells #[.int .i64 2, .int .i64 H, .int .i64 N, .int .i64 M, .bool svg] 26 (0, 0)) := by rw [hw1]; exact heap_new _ _
  obtain ⟨ga, hga⟩ : ∃ g, g = w.heap.size := ⟨_, rfl⟩
  rw [← hga] at hb1
  have HA : Hid (∀ W, Ev w0 w1 W → W.cell? ⟨ga, 0, none⟩ = some (.int .i64 2) ∧ W.cell? ⟨ga, 1, none⟩ = some (.int .i64 H) ∧ W.cell? ⟨ga, 2, none⟩ = some (.int .i64 N) ∧ W.cell? ⟨ga, 3, none⟩ = some (.int .i64 M) ∧ W.cell? ⟨ga, 4, none⟩ = some (.bool svg)) := fun W e => by
    have h2 := e.cells _ _ _ hb1 not_pil_ask
    exact ⟨cell_of h2 0, cell_of h2 1, cell_of h2 2, cell_of h2 3, cell_of h2 4⟩
  have HE1 : Hid (∀ W, Ev w0 w1 W → Ev w0 w W) := fun W e => (Ev.of_kp k1).trans e
  have l1 := hL.kept k1
  have z1 := hz.kept k1
  have HL : Hid (∀ W, Kp [] w1 W → Li w0 W q zs) := fun W kW => l1.kept kW
  have HZ : Hid (∀ W, Kp [] w1 W → Rs W bo zs.length d zs) := fun W kW => z1.kept kW
  have HLp : Hid (∀ W, Kp [] w1 W → Calls Try.prog 35 #[.slice bo zs.length d, .int .i64 H] W fun e w' => e = .returned (.int .i64 (plc (eqh H) zs)) ∧ w' = W) := fun W kW => lplace_any W zs H bo zs.length d (z1.kept kW) (by omega)
  have HPr : Hid (-1 ≤ plc (eqh H) zs ∧ plc (eqh H) zs < zs.length) := plc_range (eqh H) zs
  obtain ⟨PK, hPK⟩ : ∃ k, plc (eqh H) zs = k := ⟨_, rfl⟩
  rw [hPK] at HLp HPr
  have HPK : Hid (plc (eqh H) zs = PK) := hPK
  obtain ⟨X, hX⟩ : ∃ X, nm N = X := ⟨_, rfl⟩
  obtain ⟨Y, hY⟩ : ∃ Y, nm M = Y := ⟨_, rfl⟩
  have HNx : Hid (∀ W, Calls Try.prog 18 #[.int .i64 N] W fun e w' => e = .returned (.string X) ∧ Kp [] W w') := fun W => by rw [← hX]; exact names_any W N
  have HNy : Hid (∀ W, Calls Try.prog 18 #[.int .i64 M] W fun e w' => e = .returned (.string Y) ∧ Kp [] W w') := fun W => by rw [← hY]; exact names_any W M
  have HC2 : Hid (∀ W, Kp [] w1 W → W.cell? ⟨ga, 2, none⟩ = some (.int .i64 N) ∧ W.cell? ⟨ga, 3, none⟩ = some (.int .i64 M)) := fun W kW => by
    obtain ⟨_, _, c2, c3, _⟩ := HA.out W (Ev.of_kp kW)
    exact ⟨c2, c3⟩
  have HHL : Hid (zs.length < 900) := hl
  clear l1 z1 k1 hb1 hL hz hPK hX hY
  go_enter Try.func9, Try.ntmps9
  go_upto_region 1 with fail
  rw [← hw1, ← hga]
  clear hw1 hga
  obtain ⟨U0, hU0⟩ : ∃ V, V = w1.drew := ⟨_, rfl⟩
  have K0 : Hid (Kp [] w1 U0) := by rw [hU0]; exact (Kp.refl _ _).drew
  refine wp_region_g (S := fun V => V.cell? ⟨ga, 2, none⟩ = some (.int .i64 N) ∧ V.cell? ⟨ga, 3, none⟩ = some (.int .i64 M)) (T := []) (by kernel_rfl) (HC2.out _ (Kp.refl [] w1).drew) (fun hHeld => ?_)
  rw [← hU0] at hHeld ⊢
  clear hU0
  refine g_pure 0 (some 18) (.fieldAddr 26 (.tmp 5) 2) ?_
  refine g_take 1 (some 19) (.load 3 (.tmp 18)) (by intro w hSw; (obtain ⟨s0, s1⟩ := hSw); go_simp; try with_reducible rfl) ?_
  refine g_pure 3 (some 21) (.fieldAddr 26 (.tmp 5) 3) ?_
  refine g_take 4 (some 22) (.load 3 (.tmp 21)) (by intro w hSw; (obtain ⟨s0, s1⟩ := hSw); go_simp; try with_reducible rfl) ?_
  refine wpAnyG_ready (rs := [2]) (by kernel_rfl) (by simp) ?_
  refine AllReadyG.cons (o := ⟨some 20, .call { callee := .value (.func 18), args := #[.tmp 19], argTypes := #[3] }, 9, _, _, none⟩) rfl (fun K hK => ?_) AllReadyG.nil
  go_simp
  go_at_call 18
  refine (HNx.out U0).mono ?_
  rintro e U1 ⟨rfl, kk⟩
  have K1 : Hid (Kp [] w1 U1) := kt K0.out kk
  clear kk
  go_wp2_with fail
  refine hK.out _ _ (HC2.out _ K1.out) (fun hHeld1 => ?_)
  clear hK K hHeld
  try simp only [Act.put, pu1, pu2, pu3]
  refine wpAnyG_ready (rs := [5]) (by kernel_rfl) (by simp) ?_
  refine AllReadyG.cons (o := ⟨some 23, .call { callee := .value (.func 18), args := #[.tmp 22], argTypes := #[3] }, 9, _, _, none⟩) rfl (fun K hK => ?_) AllReadyG.nil
  go_simp
  go_at_call 18
  refine (HNy.out U1).mono ?_
  rintro e U2 ⟨rfl, kk⟩
  have K2 : Hid (Kp [] w1 U2) := kt K1.out kk
  clear kk
  go_wp2_with fail
  refine hK.out _ _ (HC2.out _ K2.out) (fun hHeld2 => ?_)
  clear hK K hHeld1
  try simp only [Act.put, pu1, pu2, pu3]
  refine g_pure 6 (some 8) (.assign (.tmp 20)) ?_
  refine g_pure 7 (some 9) (.assign (.tmp 23)) ?_
  refine wpAnyG_free (by kernel_rfl) ?_
  refine wpAny_done (by kernel_rfl) ?_ _
  skip
  obtain ⟨c0, c1, c2, c3, c4⟩ := HA.out U2 (Ev.of_kp K2.out)
  have HP2 := HLp.out U2 K2.out
  have lU := HL.out U2 K2.out
  have zU := HZ.out U2 K2.out
  have EU : Hid (Ev w0 w1 U2) := Ev.of_kp K2.out
  clear HLp HNx HNy HC2 HL HZ K0 K1 K2
  go_wp2_with fail
  refine HP2.mono ?_
  rintro e w9 ⟨rfl, hw⟩
  have hw2 := hw.symm
  clear hw
  subst hw2
  clear HP2
  rcases List.eq_nil_or_concat zs with h0 | ⟨r, ⟨xh, xn, xs⟩, h0⟩
  · subst h0
    have H4 := pop_none w0 U2 q lU
    unfold iv z0 at H4
    have HF : Hid (∀ W, Kp [] U2 W → Li w0 W q ([] : List It) ∧ Rs W bo 0 d ([] : List It) ∧ Ev w0 w1 W ∧ ([] : List It).length ≤ ([] : List It).length + 1) := fun W kW => ⟨lU.kept kW, zU.kept kW, EU.out.back kW, by simp⟩
    clear lU zU EU
    go_wp2_with fail
    refine H4.mono ?_
    rintro e w5 ⟨rfl, k5⟩
    obtain ⟨w6, hw6⟩ : ∃ w6, w6 = w5.alloc (.cells #[.int .i64 0, .int .i64 0, .string ⟨#[]⟩, .slice none 0 0] 36) := ⟨_, rfl⟩
    have k6 : Kp [] U2 w6 := by rw [hw6]; exact k5.alloc _
    have HF6 : Hid (∀ W, Kp [] w6 W → Li w0 W q ([] : List It) ∧ Rs W bo 0 d ([] : List It) ∧ Ev w0 w1 W ∧ ([] : List It).length ≤ ([] : List It).length + 1) := fun W kW => HF.out W (k6.trans kW (fun y hy => by simp at hy))
    have CC : Hid (∀ W, Kp [] w6 W → W.cell? ⟨ga, 1, none⟩ = some (.int .i64 H)) := fun W kW => (HA.out W (HF6.out W kW).2.2.1).2.1
    clear H4 HF k5 k6
    go_wp2_with fail
    rw [← hw6]
    clear hw6
    obtain ⟨A0, hA0⟩ : ∃ V, V = w6.drew := ⟨_, rfl⟩
    have KA0 : Hid (Kp [] w6 A0) := by rw [hA0]; exact (Kp.refl _ _).drew
    refine wp_region_g (S := fun V => V.cell? ⟨ga, 1, none⟩ = some (.int .i64 H)) (T := []) (by kernel_rfl) (CC.out _ (Kp.refl [] w6).drew) (fun hHeld => ?_)
    rw [← hA0] at hHeld ⊢
    clear hA0
    refine g_pure 0 (some 50) (.move (.tmp 13)) ?_
    refine g_pure 1 (some 51) (.move (.tmp 1)) ?_
    refine g_pure 2 (some 52) (.call { callee := .builtin .len, args := #[.tmp 51], argTypes := #[24] }) ?_
    refine g_pure 3 (some 53) (.binOp .gtr 3 (.tmp 52) (.const (.int .i64 0)) 3) ?_
    refine g_pure 4 (some 54) (.binOp .eql 4 (.tmp 50) (.tmp 53) 4) ?_
    refine g_pure 5 (some 55) (.move (.tmp 54)) ?_
    refine g_pure 6 (some 56) (.move (.tmp 13)) ?_
    refine g_pure 7 (some 57) (.unOp .not 4 (.tmp 56)) ?_
    refine g_pure 8 (some 58) (.move (.tmp 57)) ?_
    refine g_skip 9 (some 59) (.load 36 (.tmp 12)) ?_
    refine g_skip 10 (some 60) (.move (.tmp 1)) ?_
    refine g_skip 11 (some 61) (.move (.tmp 1)) ?_
    refine g_skip 12 (some 62) (.call { callee := .builtin .len, args := #[.tmp 61], argTypes := #[24] }) ?_
    refine g_skip 13 (some 63) (.binOp .sub 3 (.tmp 62) (.const (.int .i64 1)) 3) ?_
    refine g_skip 14 (some 64) (.indexAddr 24 (.tmp 60) (.tmp 63)) ?_
    refine g_skip 15 (some 65) (.load 36 (.tmp 64)) ?_
    refine g_skip 16 (some 66) (.call { callee := .value (.func 29), args := #[.tmp 59, .tmp 65], argTypes := #[36, 36] }) ?_
    refine g_pure 17 (some 67) (.pick (.tmp 58) (.const (.bool true)) (.tmp 66)) ?_
    refine g_pure 18 (some 68) (.pick (.tmp 55) (.tmp 67) (.const (.bool false))) ?_
    refine g_pure 19 (some 11) (.assign (.tmp 68)) ?_
    refine wpAnyG_free (by kernel_rfl) ?_
    refine wpAny_done (by kernel_rfl) ?_ _
    skip
    have HD := Hid.mk (HF6.out _ KA0.out)
    clear HF6 CC KA0
    obtain ⟨lT, zT, eT, bT⟩ := HD.out
    have HTl := tells_any w0 A0 q ([] : List It) bo 0 d (2, H, N, M, svg) lT zT (by have := HHL.out; omega)
    unfold av at HTl
    simp only at HTl
    obtain ⟨c0, c1, c2, c3, c4⟩ := HA.out _ eT
    have HFin : Hid (∀ W, Kp [] A0 W → Dn w0 w q ([] : List It) (.returned (.tuple #[.slice bo 0 d, .bool true])) W) := fun W kW => ⟨_, _, _, ([] : List It), rfl, lT.kept kW, zT.kept kW, (HE1.out _ eT).back kW, bT⟩
    clear lT zT eT bT HA HE1 HD
    go_wp2_with fail
    refine HTl.mono ?_
    rintro e w8 ⟨rfl, k8⟩
    have HF8 := Hid.mk (HFin.out w8 k8)
    clear HTl HFin k8
    go_wp2
    go_ret2
    exact HF8.out
  · rw [List.concat_eq_append] at h0
    obtain ⟨m, hm⟩ : ∃ m, r.length = m := ⟨_, rfl⟩
    have hzl : zs.length = m + 1 := by rw [h0, List.length_append, hm]; rfl
    have hm9 : m < 900 := by omega
    have H4 := pop_list w0 U2 q r (xh, xn, xs) (by rw [← h0]; exact lU) (by omega)
    unfold iv at H4
    simp only at H4
    rw [hzl] at zU hcap ⊢
    have HSm : Hid (∀ W, Calls Try.prog 29 #[.agg #[.int .i64 xh, .int .i64 xn, .string xs, .slice none 0 0], .agg #[.int .i64 xh, .int .i64 xn, .string xs, .slice none 0 0]] W fun e w' => e = .returned (.bool true) ∧ Kp [] W w') := fun W => same_any W (xh, xn, xs)
    obtain ⟨bb, of, hbo, _⟩ := zU.get m (by omega)
    subst hbo
    have ZV : Hid (Rs U2 (some ⟨bb, of, none⟩) (m + 1) d zs) := zU
    have EV : Hid (Ev w0 w1 U2) := EU.out
    clear lU zU EU
    have hwm : IntKind.i64.wrap (m : Int) = (m : Int) := by rw [IntKind.wrap_i64]; omega
    have hm0 : (0 : Int) ≤ (m : Int) := by omega
    have hm1 : (m : Int) < (m : Int) + 1 := by omega
    have hm2 : (0 : Int) < (m : Int) + 1 := by omega
    have hm3 : (m : Int) ≤ (d : Int) := by omega
    go_wp2_with fail
    refine H4.mono ?_
    rintro e w5 ⟨rfl, l5, e5⟩
    obtain ⟨w6, hw6⟩ : ∃ w6, w6 = w5.alloc (.cells #[.int .i64 xh, .int .i64 xn, .string xs, .slice none 0 0] 36) := ⟨_, rfl⟩
    have k6 : Kp [] w5 w6 := by rw [hw6]; exact (Kp.refl _ _).alloc _
    have b6 : w6.heap[w5.heap.size]? = some (.cells #[.int .i64 xh, .int .i64 xn, .string xs, .slice none 0 0] 36 (0, 0)) := by rw [hw6]; exact heap_new _ _
    have z6 := (ZV.out.ev e5).kept k6
    have HF6 : Hid (∀ W, Kp [] w6 W → Li w0 W q r ∧ Rs W (some ⟨bb, of, none⟩) m d r ∧ Ev w0 w1 W ∧ r.length ≤ zs.length + 1) := fun W kW => ⟨(l5.kept k6).kept kW, by
      have := (z6.kept kW).take m (by omega)
      rw [h0, List.take_left' hm] at this
      exact this, (((EV.out).trans e5).back k6).back kW, by omega⟩
    have CC : Hid (∀ W, Kp [] w6 W → W.cell? ⟨w5.heap.size, 0, none⟩ = some (.int .i64 xh) ∧ W.cell? ⟨w5.heap.size, 1, none⟩ = some (.int .i64 xn) ∧ W.cell? ⟨w5.heap.size, 2, none⟩ = some (.string xs) ∧ W.cell? ⟨w5.heap.size, 3, none⟩ = some (.slice none 0 0) ∧ W.cell? ⟨bb, of + m * 4, none⟩ = some (.int .i64 xh) ∧ W.cell? ⟨bb, of + m * 4 + 1, none⟩ = some (.int .i64 xn) ∧ W.cell? ⟨bb, of + m * 4 + 2, none⟩ = some (.string xs) ∧ W.cell? ⟨bb, of + m * 4 + 3, none⟩ = some (.slice none 0 0)) := fun W kW => by
      have h2 := (kW.block _ (lt_of b6) (by simp)).trans b6
      obtain ⟨b1, o1, hb1, e0, e1, e2, e3⟩ := (z6.kept kW).get m (by omega)
      simp only [Option.some.injEq, Addr.mk.injEq, and_true] at hb1
      obtain ⟨rfl, rfl⟩ := hb1
      have hx : zs[m]'(by omega) = (xh, xn, xs) := by simp only [h0]; rw [List.getElem_append_right (by omega)]; simp [hm]
      rw [hx] at e0 e1 e2
      exact ⟨cell_of h2 0, cell_of h2 1, cell_of h2 2, cell_of h2 3, e0, e1, e2, e3⟩
    clear H4 l5 e5 k6 b6 z6 ZV EV
    go_wp2_with fail
    rw [← hw6]
    clear hw6
    obtain ⟨A0, hA0⟩ : ∃ V, V = w6.drew := ⟨_, rfl⟩
    have KA0 : Hid (Kp [] w6 A0) := by rw [hA0]; exact (Kp.refl _ _).drew
    refine wp_region_g (S := fun V => V.cell? ⟨w5.heap.size, 0, none⟩ = some (.int .i64 xh) ∧ V.cell? ⟨w5.heap.size, 1, none⟩ = some (.int .i64 xn) ∧ V.cell? ⟨w5.heap.size, 2, none⟩ = some (.string xs) ∧ V.cell? ⟨w5.heap.size, 3, none⟩ = some (.slice none 0 0) ∧ V.cell? ⟨bb, of + m * 4, none⟩ = some (.int .i64 xh) ∧ V.cell? ⟨bb, of + m * 4 + 1, none⟩ = some (.int .i64 xn) ∧ V.cell? ⟨bb, of + m * 4 + 2, none⟩ = some (.string xs) ∧ V.cell? ⟨bb, of + m * 4 + 3, none⟩ = some (.slice none 0 0)) (T := []) (by kernel_rfl) (CC.out _ (Kp.refl [] w6).drew) (fun hHeld => ?_)
    rw [← hA0] at hHeld ⊢
    clear hA0
    refine g_pure 0 (some 50) (.move (.tmp 13)) ?_
    refine g_pure 1 (some 51) (.move (.tmp 1)) ?_
    refine g_pure 2 (some 52) (.call { callee := .builtin .len, args := #[.tmp 51], argTypes := #[24] }) ?_
    refine g_pure 3 (some 53) (.binOp .gtr 3 (.tmp 52) (.const (.int .i64 0)) 3) ?_
    refine g_pure 4 (some 54) (.binOp .eql 4 (.tmp 50) (.tmp 53) 4) ?_
    refine g_pure 5 (some 55) (.move (.tmp 54)) ?_
    refine g_pure 6 (some 56) (.move (.tmp 13)) ?_
    refine g_pure 7 (some 57) (.unOp .not 4 (.tmp 56)) ?_
    refine g_pure 8 (some 58) (.move (.tmp 57)) ?_
    refine g_take 9 (some 59) (.load 36 (.tmp 12)) (by intro w hSw; (obtain ⟨s0, s1, s2, s3, s4, s5, s6, s7⟩ := hSw); go_simp; try with_reducible rfl) ?_
    refine g_pure 10 (some 60) (.move (.tmp 1)) ?_
    refine g_pure 11 (some 61) (.move (.tmp 1)) ?_
    refine g_pure 12 (some 62) (.call { callee := .builtin .len, args := #[.tmp 61], argTypes := #[24] }) ?_
    refine g_pure 13 (some 63) (.binOp .sub 3 (.tmp 62) (.const (.int .i64 1)) 3) ?_
    refine g_pure 14 (some 64) (.indexAddr 24 (.tmp 60) (.tmp 63)) ?_
    refine g_take 15 (some 65) (.load 36 (.tmp 64)) (by intro w hSw; (obtain ⟨s0, s1, s2, s3, s4, s5, s6, s7⟩ := hSw); go_simp; try with_reducible rfl) ?_
    refine wpAnyG_ready (rs := [16]) (by kernel_rfl) (by simp) ?_
    refine AllReadyG.cons (o := ⟨some 66, .call { callee := .value (.func 29), args := #[.tmp 59, .tmp 65], argTypes := #[36, 36] }, 4, _, _, some (8, false)⟩) rfl (fun K hK => ?_) AllReadyG.nil
    go_simp
    go_at_call 29
    refine (HSm.out A0).mono ?_
    rintro e A1 ⟨rfl, kk⟩
    have KA1 : Hid (Kp [] w6 A1) := kt KA0.out kk
    clear kk
    go_wp2_with fail
    refine hK.out _ _ (CC.out _ KA1.out) (fun hHeld1 => ?_)
    clear hK K hHeld
    try simp only [Act.put, pu1, pu2, pu3]
    refine g_pure 17 (some 67) (.pick (.tmp 58) (.const (.bool true)) (.tmp 66)) ?_
    refine g_pure 18 (some 68) (.pick (.tmp 55) (.tmp 67) (.const (.bool false))) ?_
    refine g_pure 19 (some 11) (.assign (.tmp 68)) ?_
    refine wpAnyG_free (by kernel_rfl) ?_
    refine wpAny_done (by kernel_rfl) ?_ _
    skip
    have HD := Hid.mk (HF6.out _ KA1.out)
    clear HF6 CC KA0 KA1 HSm
    obtain ⟨lT, zT, eT, bT⟩ := HD.out
    have HTl := tells_any w0 A1 q r (some ⟨bb, of, none⟩) m d (2, H, N, M, svg) lT zT (by have := HHL.out; omega)
    unfold av at HTl
    simp only at HTl
    obtain ⟨c0, c1, c2, c3, c4⟩ := HA.out _ eT
    have HFin : Hid (∀ W, Kp [] A1 W → Dn w0 w q zs (.returned (.tuple #[.slice (some ⟨bb, of, none⟩) m d, .bool true])) W) := fun W kW => ⟨_, _, _, r, rfl, lT.kept kW, zT.kept kW, (HE1.out _ eT).back kW, bT⟩
    clear lT zT eT bT HA HE1 HD
    go_wp2_with fail
    refine HTl.mono ?_
    rintro e w8 ⟨rfl, k8⟩
    have HF8 := Hid.mk (HFin.out w8 k8)
    clear HTl HFin k8
    go_wp2
    go_ret2
    exact HF8.out
end Go.Proofs.Ytpadnfpifldoaaa.Ints
