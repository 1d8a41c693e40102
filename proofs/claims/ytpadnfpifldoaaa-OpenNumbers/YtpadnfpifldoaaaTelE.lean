/-
  tells of the laws: cases E.
-/
import Derived.Test.YtpadnfpifldoaaaAin
import Derived.Test.YtpadnfpifldoaaaStp
import Derived.Test.YtpadnfpifldoaaaScoW
namespace Go.Proofs.Ytpadnfpifldoaaa.Ints
open Go.RowKit
set_option linter.unusedSimpArgs false
set_option linter.unusedVariables false

set_option maxRecDepth 100000 in
set_option maxHeartbeats 4000000 in
theorem tells_E (w0 w : World) (q : Nat) (bo : Option Addr) (d : Nat) (r : List It) (xh xn : Int) (xs : ByteArray) (m : Nat) (hm : r.length = m) (i : Nat) (hi : i < m + 1) (yh yn : Int) (ys : ByteArray) (hy : (r ++ [((xh, xn, xs) : It)])[i]? = some (yh, yn, ys)) (kd N M : Int) (svg : Bool) (hL : Li w0 w q (r ++ [((xh, xn, xs) : It)])) (hz : Rs w bo (m + 1) d (r ++ [((xh, xn, xs) : It)])) (hml : m < 1000) :
    Calls Try.prog 42 #[.pointer (some ⟨q, 0, none⟩), .slice bo (m + 1) d, .agg #[.int .i64 kd, .int .i64 (i : Int), .int .i64 N, .int .i64 M, .bool svg]] w fun e w' => e = .returned (.bool true) ∧ Kp [] w w' := by
  have hzl : (r ++ [((xh, xn, xs) : It)]).length = m + 1 := by rw [List.length_append, hm]; rfl
  have hcap : m + 1 ≤ d := hz.cap
  obtain ⟨w1, hw1⟩ : ∃ w1, w1 = w.alloc (.cells #[.int .i64 kd, .int .i64 (i : Int), .int .i64 N, .int .i64 M, .bool svg] 26) := ⟨_, rfl⟩
  have k1 : Kp [] w w1 := by rw [hw1]; exact (Kp.refl _ _).alloc _
  have hb1 : w1.heap[w.heap.size]? = some (.cells #[.int .i64 kd, .int .i64 (i : Int), .int .i64 N, .int .i64 M, .bool svg] 26 (0, 0)) := by rw [hw1]; exact heap_new _ _
  obtain ⟨ga, hga⟩ : ∃ g, g = w.heap.size := ⟨_, rfl⟩
  rw [← hga] at hb1
  have HA : Hid (∀ W, Kp [] w1 W → W.cell? ⟨ga, 1, none⟩ = some (.int .i64 (i : Int)) ∧ W.cell? ⟨ga, 2, none⟩ = some (.int .i64 N)) := fun W kW => by
    have h2 := (kW.block _ (lt_of hb1) (by simp)).trans hb1
    exact ⟨cell_of h2 1, cell_of h2 2⟩
  have HK1 : Hid (Kp [] w w1) := k1
  have l1 := hL.kept k1
  have z1 := hz.kept k1
  have HL : Hid (∀ W, Kp [] w1 W → Li w0 W q (r ++ [((xh, xn, xs) : It)])) := fun W kW => l1.kept kW
  have HZ : Hid (∀ W, Kp [] w1 W → Rs W bo (m + 1) d (r ++ [((xh, xn, xs) : It)])) := fun W kW => z1.kept kW
  have a1 := (HA.out w1 (Kp.refl _ _)).1
  have HTp := top_list w0 w1 q (r ++ [((xh, xn, xs) : It)]) l1 (by simp) (by rw [hzl]; omega)
  rw [show (r ++ [((xh, xn, xs) : It)])[(r ++ [((xh, xn, xs) : It)]).length - 1]'(by simp) = (xh, xn, xs) by simp] at HTp
  unfold iv at HTp
  simp only at HTp
  have HAt : Hid (∀ W, Kp [] w1 W → Calls Try.prog 28 #[.pointer (some ⟨q, 0, none⟩), .int .i64 (i : Int)] W fun e w' => e = .returned (.tuple #[.agg #[.int .i64 yh, .int .i64 yn, .string ys, .slice none 0 0], .bool true]) ∧ Kp [] W w') := fun W kW => by
    obtain ⟨hi2, hy2⟩ := List.getElem?_eq_some_iff.1 hy
    have := at_list w0 W q (r ++ [((xh, xn, xs) : It)]) i (l1.kept kW) hi2
    rw [hy2] at this
    exact this
  have HLn : Hid (∀ W, Kp [] w1 W → Calls Try.prog 27 #[.pointer (some ⟨q, 0, none⟩)] W fun e w' => e = .returned (.int .i64 (((m + 1) : Nat) : Int)) ∧ w' = W) := fun W kW => by
    have := len_list w0 W q (r ++ [((xh, xn, xs) : It)]) (l1.kept kW)
    rw [hzl] at this
    exact this
  have HPl : Hid (∀ W, Kp [] w1 W → Calls Try.prog 43 #[.pointer (some ⟨q, 0, none⟩), .int .i64 (i : Int)] W fun e w' => e = .returned (.int .i64 (plc (eqh (i : Int)) (r ++ [((xh, xn, xs) : It)]))) ∧ Kp [] W w') := fun W kW => place_list w0 W q (r ++ [((xh, xn, xs) : It)]) (i : Int) (l1.kept kW) (by rw [hzl]; omega)
  have HLp : Hid (∀ W, Kp [] w1 W → Calls Try.prog 35 #[.slice bo (m + 1) d, .int .i64 (i : Int)] W fun e w' => e = .returned (.int .i64 (plc (eqh (i : Int)) (r ++ [((xh, xn, xs) : It)]))) ∧ w' = W) := fun W kW => lplace_any W (r ++ [((xh, xn, xs) : It)]) (i : Int) bo (m + 1) d (z1.kept kW) (by omega)
  generalize plc (eqh (i : Int)) (r ++ [((xh, xn, xs) : It)]) = PK at HPl HLp
  have hwm : IntKind.i64.wrap (m : Int) = (m : Int) := by rw [IntKind.wrap_i64]; omega
  have hm0 : (0 : Int) ≤ (m : Int) := by omega
  have hm1 : (m : Int) < (m : Int) + 1 := by omega
  have q1 : (0 : Int) ≤ (i : Int) := by omega
  have q2 : (i : Int) < (m : Int) + 1 := by omega
  clear l1 z1 k1 hb1
  go_enter Try.func42, Try.ntmps42
  go_upto_region 1 with fail
  rw [← hw1, ← hga]
  clear hw1 hga
  go_wp2_with fail
  refine HTp.mono ?_
  rintro e w2 ⟨rfl, k2⟩
  clear HTp
  obtain ⟨w3, hw3⟩ : ∃ w3, w3 = w2.alloc (.cells #[.int .i64 xh, .int .i64 xn, .string xs, .slice none 0 0] 36) := ⟨_, rfl⟩
  have k3 : Kp [] w1 w3 := by rw [hw3]; exact k2.alloc _
  have hb3 : w3.heap[w2.heap.size]? = some (.cells #[.int .i64 xh, .int .i64 xn, .string xs, .slice none 0 0] 36 (0, 0)) := by rw [hw3]; exact heap_new _ _
  have K3 : Hid (Kp [] w1 w3) := k3
  have a3 := (HA.out w3 k3).1
  have HAt3 := HAt.out w3 k3
  obtain ⟨g7, hg7⟩ : ∃ g, g = w2.heap.size := ⟨_, rfl⟩
  rw [← hg7] at hb3
  clear k2 k3 HAt a1
  go_upto_region 2 with fail
  rw [← hw3, ← hg7]
  clear hw3 hg7
  go_wp2_with fail
  refine HAt3.mono ?_
  rintro e w4 ⟨rfl, k4⟩
  obtain ⟨w5, hw5⟩ : ∃ w5, w5 = w4.alloc (.cells #[.int .i64 yh, .int .i64 yn, .string ys, .slice none 0 0] 36) := ⟨_, rfl⟩
  have k5 : Kp [] w3 w5 := by rw [hw5]; exact k4.alloc _
  have hb5 : w5.heap[w4.heap.size]? = some (.cells #[.int .i64 yh, .int .i64 yn, .string ys, .slice none 0 0] 36 (0, 0)) := by rw [hw5]; exact heap_new _ _
  have K5 : Hid (Kp [] w1 w5) := kt K3.out k5
  obtain ⟨g9, hg9⟩ : ∃ g, g = w4.heap.size := ⟨_, rfl⟩
  rw [← hg9] at hb5
  clear k4 a3 HAt3
  go_upto_region 3 with fail
  rw [← hw5, ← hg9]
  clear hw5 hg9
  obtain ⟨bb, of, hbo, hrest⟩ := (HZ.out w5 K5.out).get m (by rw [hzl]; omega)
  clear hrest
  have HBO : Hid (bo = some ⟨bb, of, none⟩) := hbo
  have CC : Hid (∀ W, Kp [] w5 W → W.cell? ⟨ga, 1, none⟩ = some (.int .i64 (i : Int)) ∧ W.cell? ⟨g7, 0, none⟩ = some (.int .i64 xh) ∧ W.cell? ⟨g7, 1, none⟩ = some (.int .i64 xn) ∧ W.cell? ⟨g7, 2, none⟩ = some (.string xs) ∧ W.cell? ⟨g7, 3, none⟩ = some (.slice none 0 0) ∧ W.cell? ⟨bb, of + m * 4, none⟩ = some (.int .i64 xh) ∧ W.cell? ⟨bb, of + m * 4 + 1, none⟩ = some (.int .i64 xn) ∧ W.cell? ⟨bb, of + m * 4 + 2, none⟩ = some (.string xs) ∧ W.cell? ⟨bb, of + m * 4 + 3, none⟩ = some (.slice none 0 0) ∧ W.cell? ⟨g9, 0, none⟩ = some (.int .i64 yh) ∧ W.cell? ⟨g9, 1, none⟩ = some (.int .i64 yn) ∧ W.cell? ⟨g9, 2, none⟩ = some (.string ys) ∧ W.cell? ⟨g9, 3, none⟩ = some (.slice none 0 0) ∧ W.cell? ⟨bb, of + i * 4, none⟩ = some (.int .i64 yh) ∧ W.cell? ⟨bb, of + i * 4 + 1, none⟩ = some (.int .i64 yn) ∧ W.cell? ⟨bb, of + i * 4 + 2, none⟩ = some (.string ys) ∧ W.cell? ⟨bb, of + i * 4 + 3, none⟩ = some (.slice none 0 0)) := fun W kW => by
    have h7 := ((kt k5 kW).block _ (lt_of hb3) (by simp)).trans hb3
    obtain ⟨b1, o1, hb1, e0, e1, e2, e3⟩ := (HZ.out W (kt K5.out kW)).get m (by rw [hzl]; omega)
    rw [HBO.out] at hb1
    simp only [Option.some.injEq, Addr.mk.injEq, and_true] at hb1
    obtain ⟨rfl, rfl⟩ := hb1
    rw [show (r ++ [((xh, xn, xs) : It)])[m]'(by rw [hzl]; omega) = (xh, xn, xs) by rw [List.getElem_append_right (by omega)]; simp [hm]] at e0 e1 e2
    have h9 := (kW.block _ (lt_of hb5) (by simp)).trans hb5
    obtain ⟨hi2, hy2⟩ := List.getElem?_eq_some_iff.1 hy
    obtain ⟨b1, o1, hb1, f0, f1, f2, f3⟩ := (HZ.out W (kt K5.out kW)).get i hi2
    rw [HBO.out] at hb1
    simp only [Option.some.injEq, Addr.mk.injEq, and_true] at hb1
    obtain ⟨rfl, rfl⟩ := hb1
    rw [hy2] at f0 f1 f2
    exact ⟨(HA.out W (kt K5.out kW)).1, cell_of h7 0, cell_of h7 1, cell_of h7 2, cell_of h7 3, e0, e1, e2, e3, cell_of h9 0, cell_of h9 1, cell_of h9 2, cell_of h9 3, f0, f1, f2, f3⟩
  have HSx : Hid (∀ W, Calls Try.prog 29 #[.agg #[.int .i64 xh, .int .i64 xn, .string xs, .slice none 0 0], .agg #[.int .i64 xh, .int .i64 xn, .string xs, .slice none 0 0]] W fun e w' => e = .returned (.bool true) ∧ Kp [] W w') := fun W => same_any W (xh, xn, xs)
  have HSy : Hid (∀ W, Calls Try.prog 29 #[.agg #[.int .i64 yh, .int .i64 yn, .string ys, .slice none 0 0], .agg #[.int .i64 yh, .int .i64 yn, .string ys, .slice none 0 0]] W fun e w' => e = .returned (.bool true) ∧ Kp [] W w') := fun W => same_any W (yh, yn, ys)
  have HBZ : Hid (Rs w5 bo (m + 1) d (r ++ [((xh, xn, xs) : It)])) := HZ.out w5 K5.out
  clear k5 hb3 hb5
  subst hbo
  obtain ⟨U0, hU0⟩ : ∃ V, V = w5.drew := ⟨_, rfl⟩
  have K0 : Hid (Kp [] w5 U0) := by rw [hU0]; exact (Kp.refl _ _).drew
  refine wp_region_g (S := fun V => V.cell? ⟨ga, 1, none⟩ = some (.int .i64 (i : Int)) ∧ V.cell? ⟨g7, 0, none⟩ = some (.int .i64 xh) ∧ V.cell? ⟨g7, 1, none⟩ = some (.int .i64 xn) ∧ V.cell? ⟨g7, 2, none⟩ = some (.string xs) ∧ V.cell? ⟨g7, 3, none⟩ = some (.slice none 0 0) ∧ V.cell? ⟨bb, of + m * 4, none⟩ = some (.int .i64 xh) ∧ V.cell? ⟨bb, of + m * 4 + 1, none⟩ = some (.int .i64 xn) ∧ V.cell? ⟨bb, of + m * 4 + 2, none⟩ = some (.string xs) ∧ V.cell? ⟨bb, of + m * 4 + 3, none⟩ = some (.slice none 0 0) ∧ V.cell? ⟨g9, 0, none⟩ = some (.int .i64 yh) ∧ V.cell? ⟨g9, 1, none⟩ = some (.int .i64 yn) ∧ V.cell? ⟨g9, 2, none⟩ = some (.string ys) ∧ V.cell? ⟨g9, 3, none⟩ = some (.slice none 0 0) ∧ V.cell? ⟨bb, of + i * 4, none⟩ = some (.int .i64 yh) ∧ V.cell? ⟨bb, of + i * 4 + 1, none⟩ = some (.int .i64 yn) ∧ V.cell? ⟨bb, of + i * 4 + 2, none⟩ = some (.string ys) ∧ V.cell? ⟨bb, of + i * 4 + 3, none⟩ = some (.slice none 0 0)) (T := []) (by kernel_rfl) (CC.out _ (Kp.refl [] w5).drew) (fun hHeld => ?_)
  rw [← hU0] at hHeld ⊢
  clear hU0
  refine g_pure 0 (some 27) (.move (.tmp 0)) ?_
  refine g_pure 2 (some 29) (.move (.tmp 1)) ?_
  refine g_pure 3 (some 30) (.call { callee := .builtin .len, args := #[.tmp 29], argTypes := #[24] }) ?_
  refine wpAnyG_ready (rs := [1]) (by kernel_rfl) (by simp) ?_
  refine AllReadyG.cons (o := ⟨some 28, .call { callee := .value (.func 27), args := #[.tmp 27], argTypes := #[22] }, 3, _, _, none⟩) rfl (fun K hK => ?_) AllReadyG.nil
  go_simp
  go_at_call 27
  refine (HLn.out U0 (kt K5.out K0.out)).mono ?_
  rintro e w9 ⟨rfl, hw⟩
  have hw2 := hw.symm
  clear hw
  subst hw2
  go_wp2_with fail
  refine hK.out _ _ (CC.out _ K0.out) (fun hHeld1 => ?_)
  clear hK K hHeld
  try simp only [Act.put, pu1, pu2, pu3]
  refine g_pure 4 (some 31) (.binOp .neq 3 (.tmp 28) (.tmp 30) 3) ?_
  refine g_pure 5 (some 32) (.move (.tmp 31)) ?_
  refine g_pure 6 (some 33) (.move (.tmp 8)) ?_
  refine g_pure 7 (some 34) (.move (.tmp 1)) ?_
  refine g_pure 8 (some 35) (.call { callee := .builtin .len, args := #[.tmp 34], argTypes := #[24] }) ?_
  refine g_pure 9 (some 36) (.binOp .gtr 3 (.tmp 35) (.const (.int .i64 0)) 3) ?_
  refine g_pure 10 (some 37) (.binOp .neq 4 (.tmp 33) (.tmp 36) 4) ?_
  refine g_pure 11 (some 38) (.pick (.tmp 32) (.const (.bool true)) (.tmp 37)) ?_
  refine g_pure 12 (some 39) (.move (.tmp 38)) ?_
  refine g_pure 13 (some 40) (.move (.tmp 8)) ?_
  refine g_pure 14 (some 41) (.move (.tmp 40)) ?_
  refine g_take 15 (some 42) (.load 36 (.tmp 7)) (by intro w hSw; (obtain ⟨s0, s1, s2, s3, s4, s5, s6, s7, s8, s9, s10, s11, s12, s13, s14, s15, s16⟩ := hSw); go_simp; try with_reducible rfl) ?_
  refine g_pure 16 (some 43) (.move (.tmp 1)) ?_
  refine g_pure 17 (some 44) (.move (.tmp 1)) ?_
  refine g_pure 18 (some 45) (.call { callee := .builtin .len, args := #[.tmp 44], argTypes := #[24] }) ?_
  refine g_pure 19 (some 46) (.binOp .sub 3 (.tmp 45) (.const (.int .i64 1)) 3) ?_
  refine g_pure 20 (some 47) (.indexAddr 24 (.tmp 43) (.tmp 46)) ?_
  refine g_take 21 (some 48) (.load 36 (.tmp 47)) (by intro w hSw; (obtain ⟨s0, s1, s2, s3, s4, s5, s6, s7, s8, s9, s10, s11, s12, s13, s14, s15, s16⟩ := hSw); go_simp; try with_reducible rfl) ?_
  refine wpAnyG_ready (rs := [22]) (by kernel_rfl) (by simp) ?_
  refine AllReadyG.cons (o := ⟨some 49, .call { callee := .value (.func 29), args := #[.tmp 42, .tmp 48], argTypes := #[36, 36] }, 4, _, _, some (14, true)⟩) rfl (fun K hK => ?_) AllReadyG.nil
  go_simp
  go_at_call 29
  refine (HSx.out U0).mono ?_
  rintro e U1 ⟨rfl, kk⟩
  have K1 : Hid (Kp [] w5 U1) := kt K0.out kk
  clear kk
  go_wp2_with fail
  refine hK.out _ _ (CC.out _ K1.out) (fun hHeld2 => ?_)
  clear hK K hHeld1
  try simp only [Act.put, pu1, pu2, pu3]
  refine g_pure 23 (some 50) (.unOp .not 4 (.tmp 49)) ?_
  refine g_pure 24 (some 51) (.pick (.tmp 41) (.tmp 50) (.const (.bool false))) ?_
  refine g_pure 25 (some 52) (.pick (.tmp 39) (.const (.bool true)) (.tmp 51)) ?_
  refine g_pure 26 (some 53) (.move (.tmp 52)) ?_
  refine g_pure 27 (some 54) (.move (.tmp 10)) ?_
  refine g_pure 28 (some 55) (.fieldAddr 26 (.tmp 5) 1) ?_
  refine g_take 29 (some 56) (.load 3 (.tmp 55)) (by intro w hSw; (obtain ⟨s0, s1, s2, s3, s4, s5, s6, s7, s8, s9, s10, s11, s12, s13, s14, s15, s16⟩ := hSw); go_simp; try with_reducible rfl) ?_
  refine g_pure 30 (some 57) (.binOp .geq 3 (.tmp 56) (.const (.int .i64 0)) 3) ?_
  refine g_pure 31 (some 58) (.move (.tmp 57)) ?_
  refine g_pure 32 (some 59) (.fieldAddr 26 (.tmp 5) 1) ?_
  refine g_take 33 (some 60) (.load 3 (.tmp 59)) (by intro w hSw; (obtain ⟨s0, s1, s2, s3, s4, s5, s6, s7, s8, s9, s10, s11, s12, s13, s14, s15, s16⟩ := hSw); go_simp; try with_reducible rfl) ?_
  refine g_pure 34 (some 61) (.move (.tmp 1)) ?_
  refine g_pure 35 (some 62) (.call { callee := .builtin .len, args := #[.tmp 61], argTypes := #[24] }) ?_
  refine g_pure 36 (some 63) (.binOp .lss 3 (.tmp 60) (.tmp 62) 3) ?_
  refine g_pure 37 (some 64) (.pick (.tmp 58) (.tmp 63) (.const (.bool false))) ?_
  refine g_pure 38 (some 65) (.binOp .neq 4 (.tmp 54) (.tmp 64) 4) ?_
  refine g_pure 39 (some 66) (.pick (.tmp 53) (.const (.bool true)) (.tmp 65)) ?_
  refine g_pure 40 (some 67) (.move (.tmp 66)) ?_
  refine g_pure 41 (some 68) (.move (.tmp 10)) ?_
  refine g_pure 42 (some 69) (.move (.tmp 68)) ?_
  refine g_take 43 (some 70) (.load 36 (.tmp 9)) (by intro w hSw; (obtain ⟨s0, s1, s2, s3, s4, s5, s6, s7, s8, s9, s10, s11, s12, s13, s14, s15, s16⟩ := hSw); go_simp; try with_reducible rfl) ?_
  refine g_pure 44 (some 71) (.move (.tmp 1)) ?_
  refine g_pure 45 (some 72) (.fieldAddr 26 (.tmp 5) 1) ?_
  refine g_take 46 (some 73) (.load 3 (.tmp 72)) (by intro w hSw; (obtain ⟨s0, s1, s2, s3, s4, s5, s6, s7, s8, s9, s10, s11, s12, s13, s14, s15, s16⟩ := hSw); go_simp; try with_reducible rfl) ?_
  refine g_pure 47 (some 74) (.indexAddr 24 (.tmp 71) (.tmp 73)) ?_
  refine g_take 48 (some 75) (.load 36 (.tmp 74)) (by intro w hSw; (obtain ⟨s0, s1, s2, s3, s4, s5, s6, s7, s8, s9, s10, s11, s12, s13, s14, s15, s16⟩ := hSw); go_simp; try with_reducible rfl) ?_
  refine wpAnyG_ready (rs := [49]) (by kernel_rfl) (by simp) ?_
  refine AllReadyG.cons (o := ⟨some 76, .call { callee := .value (.func 29), args := #[.tmp 70, .tmp 75], argTypes := #[36, 36] }, 4, _, _, some (42, true)⟩) rfl (fun K hK => ?_) AllReadyG.nil
  go_simp
  go_at_call 29
  refine (HSy.out U1).mono ?_
  rintro e U2 ⟨rfl, kk⟩
  have K2 : Hid (Kp [] w5 U2) := kt K1.out kk
  clear kk
  go_wp2_with fail
  refine hK.out _ _ (CC.out _ K2.out) (fun hHeld3 => ?_)
  clear hK K hHeld2
  try simp only [Act.put, pu1, pu2, pu3]
  refine g_pure 50 (some 77) (.unOp .not 4 (.tmp 76)) ?_
  refine g_pure 51 (some 78) (.pick (.tmp 69) (.tmp 77) (.const (.bool false))) ?_
  refine g_pure 52 (some 79) (.pick (.tmp 67) (.const (.bool true)) (.tmp 78)) ?_
  refine g_pure 53 (some 80) (.move (.tmp 79)) ?_
  refine g_pure 54 (some 81) (.move (.tmp 0)) ?_
  refine g_pure 55 (some 82) (.fieldAddr 26 (.tmp 5) 1) ?_
  refine g_take 56 (some 83) (.load 3 (.tmp 82)) (by intro w hSw; (obtain ⟨s0, s1, s2, s3, s4, s5, s6, s7, s8, s9, s10, s11, s12, s13, s14, s15, s16⟩ := hSw); go_simp; try with_reducible rfl) ?_
  refine g_pure 58 (some 85) (.move (.tmp 1)) ?_
  refine g_pure 59 (some 86) (.fieldAddr 26 (.tmp 5) 1) ?_
  refine g_take 60 (some 87) (.load 3 (.tmp 86)) (by intro w hSw; (obtain ⟨s0, s1, s2, s3, s4, s5, s6, s7, s8, s9, s10, s11, s12, s13, s14, s15, s16⟩ := hSw); go_simp; try with_reducible rfl) ?_
  refine wpAnyG_ready (rs := [57]) (by kernel_rfl) (by simp) ?_
  refine AllReadyG.cons (o := ⟨some 84, .call { callee := .value (.func 43), args := #[.tmp 81, .tmp 83], argTypes := #[22, 3] }, 3, _, _, some (53, false)⟩) rfl (fun K hK => ?_) AllReadyG.nil
  go_simp
  go_at_call 43
  refine (HPl.out U2 (kt K5.out K2.out)).mono ?_
  rintro e U3 ⟨rfl, kk⟩
  have K3 : Hid (Kp [] w5 U3) := kt K2.out kk
  clear kk
  go_wp2_with fail
  refine hK.out _ _ (CC.out _ K3.out) (fun hHeld4 => ?_)
  clear hK K hHeld3
  try simp only [Act.put, pu1, pu2, pu3]
  refine wpAnyG_ready (rs := [61]) (by kernel_rfl) (by simp) ?_
  refine AllReadyG.cons (o := ⟨some 88, .call { callee := .value (.func 35), args := #[.tmp 85, .tmp 87], argTypes := #[24, 3] }, 3, _, _, some (53, false)⟩) rfl (fun K hK => ?_) AllReadyG.nil
  go_simp
  go_at_call 35
  refine (HLp.out U3 (kt K5.out K3.out)).mono ?_
  rintro e w9 ⟨rfl, hw⟩
  have hw2 := hw.symm
  clear hw
  subst hw2
  go_wp2_with fail
  refine hK.out _ _ (CC.out _ K3.out) (fun hHeld5 => ?_)
  clear hK K hHeld4
  try simp only [Act.put, pu1, pu2, pu3]
  refine g_pure 62 (some 89) (.binOp .neq 3 (.tmp 84) (.tmp 88) 3) ?_
  refine g_pure 63 (some 90) (.pick (.tmp 80) (.const (.bool true)) (.tmp 89)) ?_
  refine wpAnyG_free (by kernel_rfl) ?_
  refine wpAny_done (by kernel_rfl) ?_ _
  skip
  have KU : Hid (Kp [] w1 U3) := kt K5.out K3.out
  clear CC HPl HLp HSx HSy
  obtain ⟨wb, hwb⟩ : ∃ x, x = U3 := ⟨_, rfl⟩
  rw [← hwb] at KU ⊢
  clear hwb
  obtain ⟨zz, hzz⟩ : ∃ z, (r ++ [((xh, xn, xs) : It)]) = z := ⟨_, rfl⟩
  have hzl2 : zz.length = (m + 1) := by rw [← hzz]; exact hzl
  rw [hzz] at HL HZ
  have HZL : Hid (zz.length = (m + 1)) := hzl2
  obtain ⟨XN, hXN⟩ : ∃ X, nm N = X := ⟨_, rfl⟩
  have HNm : Hid (∀ W, Calls Try.prog 18 #[.int .i64 N] W fun e w' => e = .returned (.string XN) ∧ Kp [] W w') := fun W => by rw [← hXN]; exact names_any W N
  have HHs : Hid (∀ W, Kp [] w1 W → Calls Try.prog 21 #[.pointer (some ⟨q, 0, none⟩), .string XN] W fun e w' => e = .returned (.bool (hasN XN zz)) ∧ w' = W) := fun W kW => has_list w0 W q zz XN (HL.out W kW) (by omega)
  clear hzz hXN hzl
  go_wp2
  go_loopw [11, 12] (fun hv i wq => ∃ j : Nat, j ≤ (m + 1) ∧ hv = .bool (hasN XN (zz.take j)) ∧ i = .int .i64 j ∧ Kp [] wb wq) (fun _ i _ => (m + 1) - (intOf i).toNat)
  case atStart => exact ⟨0, Nat.zero_le _, rfl, rfl, Kp.refl _ _⟩
  case round =>
    obtain ⟨j, hj, rfl, rfl, kq⟩ := hrel
    have KX : Hid (Kp [] w1 wr) := kt KU.out kq
    have KQ : Hid (Kp [] wb wr) := kq
    clear kq
    obtain ⟨B, hB⟩ : ∃ B, hasN XN (zz.take j) = B := ⟨_, rfl⟩
    rw [hB]
    have HB : Hid (hasN XN (zz.take j) = B) := hB
    clear hB
    obtain ⟨wx, hwx⟩ : ∃ x, x = wr := ⟨_, rfl⟩
    subst hwx
    by_cases hjl : j < (m + 1)
    · have hjz : j < zz.length := by omega
      have HAt := at_list w0 wx q zz j (HL.out _ KX.out) hjz
      have hsn : zz.take (j + 1) = zz.take j ++ [zz[j]] := List.take_succ_eq_append_getElem hjz
      have HG : Hid (∀ W, Kp [] wx W → W.cell? ⟨bb, of + j * 4, none⟩ = some (.int .i64 zz[j].1) ∧ W.cell? ⟨bb, of + j * 4 + 1, none⟩ = some (.int .i64 zz[j].2.1) ∧ W.cell? ⟨bb, of + j * 4 + 2, none⟩ = some (.string zz[j].2.2) ∧ W.cell? ⟨bb, of + j * 4 + 3, none⟩ = some (.slice none 0 0) ∧ W.cell? ⟨ga, 2, none⟩ = some (.int .i64 N)) := fun W kW => by
        obtain ⟨b', o', hb', e0, e1, e2, e3⟩ := (HZ.out W (kt KX.out kW)).get j hjz
        simp only [Option.some.injEq, Addr.mk.injEq, and_true] at hb'
        obtain ⟨rfl, rfl⟩ := hb'
        exact ⟨e0, e1, e2, e3, (HA.out W (kt KX.out kW)).2⟩
      generalize zz[j] = x at HAt HG hsn
      have hsn2 : hasN XN (zz.take (j + 1)) = (B || isIn [XN] x) := by rw [hsn, hasN_snoc, HB.out]
      have HSN : Hid (hasN XN (zz.take (j + 1)) = (B || isIn [XN] x)) := hsn2
      clear hsn2
      have HIs : Hid (∀ V W, Kp [] V W → Calls Try.prog 33 #[iv x, .slice (some ⟨W.heap.size, 0, none⟩) 1 1] (W.alloc (.cells #[.string XN] 9)) fun e w' => e = .returned (.bool (isIn [XN] x)) ∧ Kp [] V w') := fun V W k => lis_lit V W x [XN] 1 _ k (by rfl) (by rfl) (by omega)
      have HSm : Hid (∀ W, Calls Try.prog 29 #[iv x, iv x] W fun e w' => e = .returned (.bool true) ∧ Kp [] W w') := fun W => same_any W x
      obtain ⟨ph, pn, ps⟩ := x
      unfold iv at HAt HSm HIs
      simp only at HG
      generalize isIn [XN] (ph, pn, ps) = I at HIs HSN
      clear HB hsn
      have hjm : j < m + 1 := hjl
      go_wp2_with fail
      refine HAt.mono ?_
      rintro e w4 ⟨rfl, k4⟩
      obtain ⟨w5, hw5⟩ : ∃ w5, w5 = w4.alloc (.cells #[.int .i64 ph, .int .i64 pn, .string ps, .slice none 0 0] 36) := ⟨_, rfl⟩
      have k5 : Kp [] wx w5 := by rw [hw5]; exact k4.alloc _
      have K5 : Hid (Kp [] wx w5) := k5
      have hbx : Bx w5 (some ⟨w4.heap.size, 0, none⟩) (ph, pn, ps) := by rw [hw5]; exact bx_new w4 (ph, pn, ps)
      have CC : Hid (∀ W, Kp [] w5 W → W.cell? ⟨w4.heap.size, 0, none⟩ = some (.int .i64 ph) ∧ W.cell? ⟨w4.heap.size, 1, none⟩ = some (.int .i64 pn) ∧ W.cell? ⟨w4.heap.size, 2, none⟩ = some (.string ps) ∧ W.cell? ⟨w4.heap.size, 3, none⟩ = some (.slice none 0 0) ∧ W.cell? ⟨bb, of + j * 4, none⟩ = some (.int .i64 ph) ∧ W.cell? ⟨bb, of + j * 4 + 1, none⟩ = some (.int .i64 pn) ∧ W.cell? ⟨bb, of + j * 4 + 2, none⟩ = some (.string ps) ∧ W.cell? ⟨bb, of + j * 4 + 3, none⟩ = some (.slice none 0 0)) := fun W kW => by
        obtain ⟨g, hg, e0, e1, e2, e3⟩ := (hbx.kept kW).out
        simp only [Option.some.injEq, Addr.mk.injEq, and_true] at hg
        subst hg
        obtain ⟨f0, f1, f2, f3, _⟩ := HG.out W (kt k5 kW)
        exact ⟨e0, e1, e2, e3, f0, f1, f2, f3⟩
      clear HAt k4 k5 hbx
      go_upto_region 10 with fail
      rw [← hw5]
      clear hw5
      refine wp_region_g (S := fun V => V.cell? ⟨w4.heap.size, 0, none⟩ = some (.int .i64 ph) ∧ V.cell? ⟨w4.heap.size, 1, none⟩ = some (.int .i64 pn) ∧ V.cell? ⟨w4.heap.size, 2, none⟩ = some (.string ps) ∧ V.cell? ⟨w4.heap.size, 3, none⟩ = some (.slice none 0 0) ∧ V.cell? ⟨bb, of + j * 4, none⟩ = some (.int .i64 ph) ∧ V.cell? ⟨bb, of + j * 4 + 1, none⟩ = some (.int .i64 pn) ∧ V.cell? ⟨bb, of + j * 4 + 2, none⟩ = some (.string ps) ∧ V.cell? ⟨bb, of + j * 4 + 3, none⟩ = some (.slice none 0 0)) (T := []) (by kernel_rfl) (CC.out _ (Kp.refl [] w5).drew) (fun hHeld => ?_)
      refine g_pure 0 (some 103) (.move (.tmp 14)) ?_
      refine g_pure 1 (some 104) (.unOp .not 4 (.tmp 103)) ?_
      refine g_pure 2 (some 105) (.move (.tmp 104)) ?_
      refine g_take 3 (some 106) (.load 36 (.tmp 13)) (by intro w hSw; (obtain ⟨q0, q1, q2, q3, q4, q5, q6, q7⟩ := hSw); go_simp; try with_reducible rfl) ?_
      refine g_pure 4 (some 107) (.move (.tmp 1)) ?_
      refine g_pure 5 (some 108) (.move (.tmp 12)) ?_
      refine g_pure 6 (some 109) (.indexAddr 24 (.tmp 107) (.tmp 108)) ?_
      refine g_take 7 (some 110) (.load 36 (.tmp 109)) (by intro w hSw; (obtain ⟨q0, q1, q2, q3, q4, q5, q6, q7⟩ := hSw); go_simp; try with_reducible rfl) ?_
      refine wpAnyG_ready (rs := [8]) (by kernel_rfl) (by simp) ?_
      refine AllReadyG.cons (o := ⟨some 111, .call { callee := .value (.func 29), args := #[.tmp 106, .tmp 110], argTypes := #[36, 36] }, 4, _, _, some (2, false)⟩) rfl (fun K hK => ?_) AllReadyG.nil
      go_simp
      go_at_call 29
      refine (HSm.out _).mono ?_
      rintro e w7 ⟨rfl, k7⟩
      go_wp2_with fail
      refine hK.out _ _ (CC.out _ ((Kp.refl [] w5).drew.trans k7 (fun y hy => by simp at hy))) (fun hHeld1 => ?_)
      clear hK K hHeld
      try simp only [Act.put, pu1, pu2, pu3]
      refine g_pure 9 (some 112) (.unOp .not 4 (.tmp 111)) ?_
      refine g_pure 10 (some 113) (.pick (.tmp 105) (.const (.bool true)) (.tmp 112)) ?_
      refine wpAnyG_free (by kernel_rfl) ?_
      refine wpAny_done (by kernel_rfl) ?_ _
      skip
      have R7 : Hid (Kp [] wx w7) := kt K5.out ((Kp.refl [] w5).drew.trans k7 (fun y hy => by simp at hy))
      have C2 : Hid (∀ W, Kp [] w7 W → W.cell? ⟨bb, of + j * 4, none⟩ = some (.int .i64 ph) ∧ W.cell? ⟨bb, of + j * 4 + 1, none⟩ = some (.int .i64 pn) ∧ W.cell? ⟨bb, of + j * 4 + 2, none⟩ = some (.string ps) ∧ W.cell? ⟨bb, of + j * 4 + 3, none⟩ = some (.slice none 0 0) ∧ W.cell? ⟨ga, 2, none⟩ = some (.int .i64 N)) := fun W kW => HG.out W (kt R7.out kW)
      clear CC HSm K5 k7 HG
      go_wp2_with fail
      cases B
      · refine wp_region_g (S := fun V => V.cell? ⟨bb, of + j * 4, none⟩ = some (.int .i64 ph) ∧ V.cell? ⟨bb, of + j * 4 + 1, none⟩ = some (.int .i64 pn) ∧ V.cell? ⟨bb, of + j * 4 + 2, none⟩ = some (.string ps) ∧ V.cell? ⟨bb, of + j * 4 + 3, none⟩ = some (.slice none 0 0) ∧ V.cell? ⟨ga, 2, none⟩ = some (.int .i64 N)) (T := []) (by kernel_rfl) (C2.out _ (Kp.refl [] w7).drew) (fun hHeld => ?_)
        refine g_pure 0 (some 114) (.move (.tmp 11)) ?_
        refine g_pure 1 (some 115) (.move (.tmp 114)) ?_
        refine g_pure 2 (some 116) (.move (.tmp 1)) ?_
        refine g_pure 3 (some 117) (.move (.tmp 12)) ?_
        refine g_pure 4 (some 118) (.indexAddr 24 (.tmp 116) (.tmp 117)) ?_
        refine g_take 5 (some 119) (.load 36 (.tmp 118)) (by intro w hSw; (obtain ⟨q0, q1, q2, q3, q4⟩ := hSw); go_simp; try with_reducible rfl) ?_
        refine g_pure 6 (some 120) (.fieldAddr 26 (.tmp 5) 2) ?_
        refine g_take 7 (some 121) (.load 3 (.tmp 120)) (by intro w hSw; (obtain ⟨q0, q1, q2, q3, q4⟩ := hSw); go_simp; try with_reducible rfl) ?_
        refine wpAnyG_ready (rs := [8]) (by kernel_rfl) (by simp) ?_
        refine AllReadyG.cons (o := ⟨some 122, .call { callee := .value (.func 18), args := #[.tmp 121], argTypes := #[3] }, 9, _, _, some (1, false)⟩) rfl (fun K hK => ?_) AllReadyG.nil
        go_simp
        go_at_call 18
        refine (HNm.out _).mono ?_
        rintro e w8 ⟨rfl, kk⟩
        have k8 : Kp [] w7 w8 := (Kp.refl [] w7).drew.trans kk (fun y hy => by simp at hy)
        clear kk
        go_wp2_with fail
        refine hK.out _ _ (C2.out _ k8) (fun hHeld1 => ?_)
        clear hK K hHeld
        try simp only [Act.put, pu1, pu2, pu3]
        refine wpAnyG_ready (rs := [9]) (by kernel_rfl) (by simp) ?_
        refine AllReadyG.cons (o := ⟨some 123, .buildSlice 72 1 #[(0, .tmp 122)], 72, _, _, some (1, false)⟩) rfl (fun K hK => ?_) AllReadyG.nil
        go_simp
        refine hK.out _ _ (C2.out _ (k8.alloc _)) (fun hHeld2 => ?_)
        clear hK K hHeld1
        try simp only [Act.put, pu1, pu2, pu3]
        refine wpAnyG_ready (rs := [10]) (by kernel_rfl) (by simp) ?_
        refine AllReadyG.cons (o := ⟨some 124, .call { callee := .value (.func 33), args := #[.tmp 119, .tmp 123], argTypes := #[36, 72] }, 4, _, _, some (1, false)⟩) rfl (fun K hK => ?_) AllReadyG.nil
        go_simp
        go_at_call 33
        refine (HIs.out _ _ k8).mono ?_
        rintro e w9 ⟨rfl, k9⟩
        go_wp2_with fail
        refine hK.out _ _ (C2.out _ k9) (fun hHeld3 => ?_)
        clear hK K hHeld2
        try simp only [Act.put, pu1, pu2, pu3]
        refine g_pure 11 (some 125) (.pick (.tmp 115) (.const (.bool true)) (.tmp 124)) ?_
        refine g_pure 12 (some 11) (.assign (.tmp 125)) ?_
        refine wpAnyG_free (by kernel_rfl) ?_
        refine wpAny_done (by kernel_rfl) ?_ _
        skip
        have RZ : Hid (Kp [] wb w9) := kt (kt KQ.out R7.out) k9
        rw [Bool.false_or] at HSN
        clear C2 HIs KQ R7 k8 k9
        go_wp2
        go_roundw
        case rel => exact ⟨j + 1, by omega, by rw [HSN.out], by go_num, RZ.out⟩
        case measure => simp [intOf]; omega
      · refine wp_region_g (S := fun V => V.cell? ⟨bb, of + j * 4, none⟩ = some (.int .i64 ph) ∧ V.cell? ⟨bb, of + j * 4 + 1, none⟩ = some (.int .i64 pn) ∧ V.cell? ⟨bb, of + j * 4 + 2, none⟩ = some (.string ps) ∧ V.cell? ⟨bb, of + j * 4 + 3, none⟩ = some (.slice none 0 0) ∧ V.cell? ⟨ga, 2, none⟩ = some (.int .i64 N)) (T := []) (by kernel_rfl) (C2.out _ (Kp.refl [] w7).drew) (fun hHeld => ?_)
        refine g_pure 0 (some 114) (.move (.tmp 11)) ?_
        refine g_pure 1 (some 115) (.move (.tmp 114)) ?_
        refine g_skip 2 (some 116) (.move (.tmp 1)) ?_
        refine g_skip 3 (some 117) (.move (.tmp 12)) ?_
        refine g_skip 4 (some 118) (.indexAddr 24 (.tmp 116) (.tmp 117)) ?_
        refine g_skip 5 (some 119) (.load 36 (.tmp 118)) ?_
        refine g_skip 6 (some 120) (.fieldAddr 26 (.tmp 5) 2) ?_
        refine g_skip 7 (some 121) (.load 3 (.tmp 120)) ?_
        refine g_skip 8 (some 122) (.call { callee := .value (.func 18), args := #[.tmp 121], argTypes := #[3] }) ?_
        refine g_skip 9 (some 123) (.buildSlice 72 1 #[(0, .tmp 122)]) ?_
        refine g_skip 10 (some 124) (.call { callee := .value (.func 33), args := #[.tmp 119, .tmp 123], argTypes := #[36, 72] }) ?_
        refine g_pure 11 (some 125) (.pick (.tmp 115) (.const (.bool true)) (.tmp 124)) ?_
        refine g_pure 12 (some 11) (.assign (.tmp 125)) ?_
        refine wpAnyG_free (by kernel_rfl) ?_
        refine wpAny_done (by kernel_rfl) ?_ _
        skip
        have RZ : Hid (Kp [] wb (w7.drew)) := (kt KQ.out R7.out).drew
        rw [Bool.true_or] at HSN
        clear C2 HIs KQ R7
        go_wp2
        go_roundw
        case rel => exact ⟨j + 1, by omega, by rw [HSN.out], by go_num, RZ.out⟩
        case measure => simp [intOf]; omega
    · obtain rfl : j = (m + 1) := by omega
      have hfull : hasN XN zz = B := by rw [← HB.out, List.take_of_length_le (by rw [HZL.out]; exact Nat.le_refl _)]
      have HH2 : Hid (∀ W, Kp [] w1 W → Calls Try.prog 21 #[.pointer (some ⟨q, 0, none⟩), .string XN] W fun e w' => e = .returned (.bool B) ∧ w' = W) := by rw [← hfull]; exact HHs
      have a2 := (HA.out _ KX.out).2
      clear HB hfull HHs
      go_wp2_with fail
      refine (HNm.out _).mono ?_
      rintro e w4 ⟨rfl, k4⟩
      have H5 := HH2.out w4 (kt KX.out k4)
      have KF : Hid (Kp [] w w4) := kt HK1.out (kt KX.out k4)
      clear HH2 k4
      go_wp2_with (first | (go_at_call 21; refine (H5).mono ?_; rintro e w9 ⟨rfl, hw⟩; have hw2 := hw.symm; clear hw; subst hw2))
      go_ret
      exact ⟨rfl, KF.out⟩
end Go.Proofs.Ytpadnfpifldoaaa.Ints
