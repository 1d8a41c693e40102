/-
  tells of the laws.
-/
import Derived.Test.YtadcpkdnpfmphaaRc
namespace Go.Proofs.Ytadcpkdnpfmphaa.Ints
open Go.RowKit
set_option linter.unusedSimpArgs false
set_option linter.unusedVariables false

set_option maxRecDepth 100000 in
set_option maxHeartbeats 4000000 in
theorem tells_any (w0 w : World) (q : Nat) (B : List Nat) (rl : List Raw) (zs : List Ent) (bo : Option Addr) (n d : Nat) (kd H N I : Int) (ao : Option Addr) (an ac : Nat) (hL : Li w0 w q B zs) (hz : Ls w bo n d rl zs) (hl : zs.length < 1000) :
    Calls Try.prog 34 #[.pointer (some ⟨q, 0, none⟩), .slice bo n d, .agg #[.int .i64 kd, .int .i64 H, .int .i64 N, .int .i64 I, .slice ao an ac]] w fun e w' => e = .returned (.bool true) ∧ Kp [] w w' := by
  obtain rfl : n = zs.length := hz.len
  have hcap := hz.rs.cap
  obtain ⟨w1, hw1⟩ : ∃ w1, w1 = w.alloc (.cells #[.int .i64 kd, .int .i64 H, .int .i64 N, .int .i64 I, .slice ao an ac] 29) := ⟨_, rfl⟩
  have k1 : Kp [] w w1 := by rw [hw1]; exact (Kp.refl _ _).alloc _
  have hb1 : w1.heap[w.heap.size]? = some (.cells #[.int .i64 kd, .int .i64 H, .int .i64 N, .int .i64 I, .slice ao an ac] 29 (0, 0)) := by rw [hw1]; exact heap_new _ _
  obtain ⟨ga, hga⟩ : ∃ g, g = w.heap.size := ⟨_, rfl⟩
  rw [← hga] at hb1
  have CC : Hid (∀ W, Kp [] w1 W → W.cell? ⟨ga, 1, none⟩ = some (.int .i64 H)) := fun W kW => by
    have h2 := (kW.block _ (lt_of hb1) (by simp)).trans hb1
    exact cell_of h2 1
  have HK1 : Hid (Kp [] w w1) := k1
  have l1 := hL.kept k1
  have z1 := hz.kept k1
  have HL : Hid (∀ W, Kp [] w1 W → Li w0 W q B zs) := fun W kW => l1.kept kW
  have HZ : Hid (∀ W, Kp [] w1 W → Ls W bo zs.length d rl zs) := fun W kW => z1.kept kW
  have HLn : Hid (∀ W, Kp [] w1 W → Calls Try.prog 15 #[.pointer (some ⟨q, 0, none⟩)] W fun e w' => e = .returned (.int .i64 zs.length) ∧ w' = W) := fun W kW => len_list w0 W q B zs (l1.kept kW)
  have HPl : Hid (∀ W, Kp [] w1 W → Calls Try.prog 49 #[.pointer (some ⟨q, 0, none⟩), .int .i64 H] W fun e w' => e = .returned (.int .i64 (plc2 H zs)) ∧ Kp [] W w') := fun W kW => place_list w0 W q B zs H (l1.kept kW) (by omega)
  have HLp : Hid (∀ W, Kp [] w1 W → Calls Try.prog 25 #[.slice bo zs.length d, .int .i64 H] W fun e w' => e = .returned (.int .i64 (plc2 H zs)) ∧ w' = W) := fun W kW => lplace_any W rl zs H bo zs.length d (z1.kept kW) (by omega)
  generalize plc2 H zs = PK at HPl HLp
  clear l1 z1 k1 hb1 hL hz
  go_enter Try.func34, Try.ntmps34
  go_upto_region 1 with fail
  rw [← hw1, ← hga]
  clear hw1 hga
  go_region_held3 (fun V => V.cell? ⟨ga, 1, none⟩ = some (.int .i64 H))
    (first | with_reducible exact CC.out _ S1.out | exact CC.out _ (Kp.refl [] w1).drew)
    (first
      | (have D1 := S1.out; go_at_call 25; refine (HLp.out _ D1).mono ?_; rintro e v2 ⟨rfl, hv⟩; have hv2 := hv.symm; clear hv; subst hv2)
      | (go_at_call 49; refine (HPl.out _ (Kp.refl [] w1).drew).mono ?_; rintro e v1 ⟨rfl, kk⟩; have S1 : Hid (Kp [] w1 v1) := kt (Kp.refl [] w1).drew kk; clear kk)
      | (go_at_call 15; refine (HLn.out _ (Kp.refl [] w1).drew).mono ?_; rintro e v0 ⟨rfl, hv⟩; have hv2 := hv.symm; clear hv; subst hv2))
  all_goals (have S2 : Hid (Kp [] w1 v1) := S1.out; clear S1 HLp HPl HLn CC)
  all_goals go_wp2
  all_goals go_loopw [7] (fun i wr => ∃ k : Nat, k ≤ zs.length + 2 ∧ i = .int .i64 ((k : Int) - 1) ∧ Kp [] w1 wr) (fun i _ => (zs.length + 1 - intOf i).toNat)
  case atStart => exact ⟨0, by omega, rfl, S2.out⟩
  case round =>
    obtain ⟨k, hk, rfl, kr⟩ := hrel
    clear S2
    by_cases hend : k = zs.length + 2
    · subst hend
      have KR : Hid (Kp [] w wr) := kt HK1.out kr
      have q1 : decide ((((zs.length + 2 : Nat) : Int) - 1) ≤ (zs.length : Int)) = false := decide_eq_false (by omega)
      have q1' : decide (((zs.length : Int) + 2 - 1) ≤ (zs.length : Int)) = false := decide_eq_false (by omega)
      clear kr HL HZ
      go_wp2
      go_ret
      exact ⟨rfl, KR.out⟩
    have q0 : decide (((k : Int) - 1) ≤ (zs.length : Int)) = true := decide_eq_true (by omega)
    rcases (show k = 0 ∨ k = zs.length + 1 ∨ ∃ j, k = j + 1 ∧ j < zs.length from by
      rcases k with _ | j
      · exact Or.inl rfl
      · by_cases h : j < zs.length
        · exact Or.inr (Or.inr ⟨j, rfl, h⟩)
        · exact Or.inr (Or.inl (by omega))) with rfl | rfl | ⟨j, rfl, hj⟩
    · rw [show (((0 : Nat) : Int) - 1) = -1 from rfl] at q0 ⊢
      have HAt := at_none w0 wr q B zs (-1 : Int) (HL.out wr kr) (Or.inl (by omega))
      have HKr : Hid (Kp [] w1 wr) := kr
      have q1 : decide ((0 : Int) ≤ (-1 : Int)) = false := by decide
      have q2 : decide ((-1 : Int) < (zs.length : Int)) = true := decide_eq_true (by omega)
      clear kr
      simp only [rv, r0] at HAt
      go_wp2_with fail
      refine HAt.mono ?_
      rintro e w4 ⟨rfl, k4⟩
      obtain ⟨w5, hw5⟩ : ∃ w5, w5 = w4.alloc (.cells #[.bool false, .int .i64 0, .string ⟨#[]⟩, .slice none 0 0] 40) := ⟨_, rfl⟩
      have k5 : Kp [] wr w5 := by rw [hw5]; exact k4.alloc _
      have hb5 : w5.heap[w4.heap.size]? = some (.cells #[.bool false, .int .i64 0, .string ⟨#[]⟩, .slice none 0 0] 40 (0, 0)) := by rw [hw5]; exact heap_new _ _
      have K5 : Hid (Kp [] w1 w5) := kt HKr.out k5
      obtain ⟨gy, hgy⟩ : ∃ g, g = w4.heap.size := ⟨_, rfl⟩
      rw [← hgy] at hb5
      have CC : Hid (∀ W, Kp [] w5 W → W.cell? ⟨gy, 0, none⟩ = some (.bool false) ∧ W.cell? ⟨gy, 1, none⟩ = some (.int .i64 0) ∧ W.cell? ⟨gy, 2, none⟩ = some (.string ⟨#[]⟩) ∧ W.cell? ⟨gy, 3, none⟩ = some (.slice none 0 0)) := fun W kW => by
        have h2 := (kW.block _ (lt_of hb5) (by simp)).trans hb5
        exact ⟨cell_of h2 0, cell_of h2 1, cell_of h2 2, cell_of h2 3⟩
      have HSm : Hid (∀ W, Calls Try.prog 21 #[.agg #[.bool false, .int .i64 0, .string ⟨#[]⟩, .slice none 0 0], .agg #[.bool false, .int .i64 0, .string ⟨#[]⟩, .slice none 0 0]] W fun e w' => e = .returned (.bool true) ∧ Kp [] W w') := fun W => same_any W r0 r0 e0 (sm_none _) (sm_none _)
      clear HAt k4 k5 hb5
      go_upto_region 7 with fail
      rw [← hw5, ← hgy]
      clear hw5 hgy
      obtain ⟨U0, hU0⟩ : ∃ V, V = w5.drew := ⟨_, rfl⟩
      have K0 : Hid (Kp [] w5 U0) := by rw [hU0]; exact (Kp.refl _ _).drew
      refine wp_region_g (S := fun V => V.cell? ⟨gy, 0, none⟩ = some (.bool false) ∧ V.cell? ⟨gy, 1, none⟩ = some (.int .i64 0) ∧ V.cell? ⟨gy, 2, none⟩ = some (.string ⟨#[]⟩) ∧ V.cell? ⟨gy, 3, none⟩ = some (.slice none 0 0)) (T := []) (by kernel_rfl) (CC.out _ (Kp.refl [] w5).drew) (fun hHeld => ?_)
      rw [← hU0] at hHeld ⊢
      clear hU0
      refine g_pure 0 (some 38) (.move (.tmp 9)) ?_
      refine g_pure 1 (some 39) (.move (.tmp 7)) ?_
      refine g_pure 2 (some 40) (.binOp .geq 3 (.tmp 39) (.const (.int .i64 0)) 3) ?_
      refine g_pure 3 (some 41) (.move (.tmp 40)) ?_
      refine g_skip 4 (some 42) (.move (.tmp 7)) ?_
      refine g_skip 5 (some 43) (.move (.tmp 1)) ?_
      refine g_skip 6 (some 44) (.call { callee := .builtin .len, args := #[.tmp 43], argTypes := #[24] }) ?_
      refine g_skip 7 (some 45) (.binOp .lss 3 (.tmp 42) (.tmp 44) 3) ?_
      refine g_pure 8 (some 46) (.pick (.tmp 41) (.tmp 45) (.const (.bool false))) ?_
      refine g_pure 9 (some 47) (.binOp .neq 4 (.tmp 38) (.tmp 46) 4) ?_
      refine g_pure 10 (some 48) (.move (.tmp 47)) ?_
      refine g_pure 11 (some 49) (.move (.tmp 9)) ?_
      refine g_pure 12 (some 50) (.move (.tmp 49)) ?_
      refine g_skip 13 (some 51) (.load 40 (.tmp 8)) ?_
      refine g_skip 14 (some 52) (.move (.tmp 1)) ?_
      refine g_skip 15 (some 53) (.move (.tmp 7)) ?_
      refine g_skip 16 (some 54) (.indexAddr 24 (.tmp 52) (.tmp 53)) ?_
      refine g_skip 17 (some 55) (.load 40 (.tmp 54)) ?_
      refine g_skip 18 (some 56) (.call { callee := .value (.func 21), args := #[.tmp 51, .tmp 55], argTypes := #[40, 40] }) ?_
      refine g_skip 19 (some 57) (.unOp .not 4 (.tmp 56)) ?_
      refine g_pure 20 (some 58) (.pick (.tmp 50) (.tmp 57) (.const (.bool false))) ?_
      refine g_pure 21 (some 59) (.pick (.tmp 48) (.const (.bool true)) (.tmp 58)) ?_
      refine g_pure 22 (some 60) (.move (.tmp 59)) ?_
      refine g_pure 23 (some 61) (.move (.tmp 9)) ?_
      refine g_pure 24 (some 62) (.unOp .not 4 (.tmp 61)) ?_
      refine g_pure 25 (some 63) (.move (.tmp 62)) ?_
      refine g_take 26 (some 64) (.load 40 (.tmp 8)) (by intro w hSw; (obtain ⟨s0, s1, s2, s3⟩ := hSw); go_simp; try with_reducible rfl) ?_
      refine g_pure 27 (some 65) (.build 40 #[]) ?_
      refine wpAnyG_ready (rs := [28]) (by kernel_rfl) (by simp) ?_
      refine AllReadyG.cons (o := ⟨some 66, .call { callee := .value (.func 21), args := #[.tmp 64, .tmp 65], argTypes := #[40, 40] }, 4, _, _, some (25, true)⟩) rfl (fun K hK => ?_) AllReadyG.nil
      go_simp
      go_at_call 21
      refine (HSm.out U0).mono ?_
      rintro e v1 ⟨rfl, kk⟩
      have K1 : Hid (Kp [] w5 v1) := kt K0.out kk
      clear kk
      go_wp2_with fail
      refine hK.out _ _ (CC.out _ K1.out) (fun hHeld1 => ?_)
      clear hK K hHeld
      try simp only [Act.put, pu1, pu2, pu3]
      refine g_pure 29 (some 67) (.unOp .not 4 (.tmp 66)) ?_
      refine g_pure 30 (some 68) (.pick (.tmp 63) (.tmp 67) (.const (.bool false))) ?_
      refine g_pure 31 (some 69) (.pick (.tmp 60) (.const (.bool true)) (.tmp 68)) ?_
      refine wpAnyG_free (by kernel_rfl) ?_
      refine wpAny_done (by kernel_rfl) ?_ _
      skip
      have KZ : Hid (Kp [] w1 v1) := kt K5.out K1.out
      clear K0 K1 CC HSm
      all_goals go_wp2
      all_goals go_roundw
      case rel => exact ⟨1, by omega, by go_num, KZ.out⟩
      case measure => simp [intOf] <;> omega
    · rw [show (((zs.length + 1 : Nat) : Int) - 1) = (zs.length : Int) by omega] at q0 ⊢
      have HAt := at_none w0 wr q B zs (zs.length : Int) (HL.out wr kr) (Or.inr (by omega))
      have HKr : Hid (Kp [] w1 wr) := kr
      have q1 : decide ((0 : Int) ≤ (zs.length : Int)) = true := decide_eq_true (by omega)
      have q2 : decide ((zs.length : Int) < (zs.length : Int)) = false := decide_eq_false (by omega)
      clear kr
      simp only [rv, r0] at HAt
      go_wp2_with fail
      refine HAt.mono ?_
      rintro e w4 ⟨rfl, k4⟩
      obtain ⟨w5, hw5⟩ : ∃ w5, w5 = w4.alloc (.cells #[.bool false, .int .i64 0, .string ⟨#[]⟩, .slice none 0 0] 40) := ⟨_, rfl⟩
      have k5 : Kp [] wr w5 := by rw [hw5]; exact k4.alloc _
      have hb5 : w5.heap[w4.heap.size]? = some (.cells #[.bool false, .int .i64 0, .string ⟨#[]⟩, .slice none 0 0] 40 (0, 0)) := by rw [hw5]; exact heap_new _ _
      have K5 : Hid (Kp [] w1 w5) := kt HKr.out k5
      obtain ⟨gy, hgy⟩ : ∃ g, g = w4.heap.size := ⟨_, rfl⟩
      rw [← hgy] at hb5
      have CC : Hid (∀ W, Kp [] w5 W → W.cell? ⟨gy, 0, none⟩ = some (.bool false) ∧ W.cell? ⟨gy, 1, none⟩ = some (.int .i64 0) ∧ W.cell? ⟨gy, 2, none⟩ = some (.string ⟨#[]⟩) ∧ W.cell? ⟨gy, 3, none⟩ = some (.slice none 0 0)) := fun W kW => by
        have h2 := (kW.block _ (lt_of hb5) (by simp)).trans hb5
        exact ⟨cell_of h2 0, cell_of h2 1, cell_of h2 2, cell_of h2 3⟩
      have HSm : Hid (∀ W, Calls Try.prog 21 #[.agg #[.bool false, .int .i64 0, .string ⟨#[]⟩, .slice none 0 0], .agg #[.bool false, .int .i64 0, .string ⟨#[]⟩, .slice none 0 0]] W fun e w' => e = .returned (.bool true) ∧ Kp [] W w') := fun W => same_any W r0 r0 e0 (sm_none _) (sm_none _)
      clear HAt k4 k5 hb5
      go_upto_region 7 with fail
      rw [← hw5, ← hgy]
      clear hw5 hgy
      obtain ⟨U0, hU0⟩ : ∃ V, V = w5.drew := ⟨_, rfl⟩
      have K0 : Hid (Kp [] w5 U0) := by rw [hU0]; exact (Kp.refl _ _).drew
      refine wp_region_g (S := fun V => V.cell? ⟨gy, 0, none⟩ = some (.bool false) ∧ V.cell? ⟨gy, 1, none⟩ = some (.int .i64 0) ∧ V.cell? ⟨gy, 2, none⟩ = some (.string ⟨#[]⟩) ∧ V.cell? ⟨gy, 3, none⟩ = some (.slice none 0 0)) (T := []) (by kernel_rfl) (CC.out _ (Kp.refl [] w5).drew) (fun hHeld => ?_)
      rw [← hU0] at hHeld ⊢
      clear hU0
      refine g_pure 0 (some 38) (.move (.tmp 9)) ?_
      refine g_pure 1 (some 39) (.move (.tmp 7)) ?_
      refine g_pure 2 (some 40) (.binOp .geq 3 (.tmp 39) (.const (.int .i64 0)) 3) ?_
      refine g_pure 3 (some 41) (.move (.tmp 40)) ?_
      refine g_pure 4 (some 42) (.move (.tmp 7)) ?_
      refine g_pure 5 (some 43) (.move (.tmp 1)) ?_
      refine g_pure 6 (some 44) (.call { callee := .builtin .len, args := #[.tmp 43], argTypes := #[24] }) ?_
      refine g_pure 7 (some 45) (.binOp .lss 3 (.tmp 42) (.tmp 44) 3) ?_
      refine g_pure 8 (some 46) (.pick (.tmp 41) (.tmp 45) (.const (.bool false))) ?_
      refine g_pure 9 (some 47) (.binOp .neq 4 (.tmp 38) (.tmp 46) 4) ?_
      refine g_pure 10 (some 48) (.move (.tmp 47)) ?_
      refine g_pure 11 (some 49) (.move (.tmp 9)) ?_
      refine g_pure 12 (some 50) (.move (.tmp 49)) ?_
      refine g_skip 13 (some 51) (.load 40 (.tmp 8)) ?_
      refine g_skip 14 (some 52) (.move (.tmp 1)) ?_
      refine g_skip 15 (some 53) (.move (.tmp 7)) ?_
      refine g_skip 16 (some 54) (.indexAddr 24 (.tmp 52) (.tmp 53)) ?_
      refine g_skip 17 (some 55) (.load 40 (.tmp 54)) ?_
      refine g_skip 18 (some 56) (.call { callee := .value (.func 21), args := #[.tmp 51, .tmp 55], argTypes := #[40, 40] }) ?_
      refine g_skip 19 (some 57) (.unOp .not 4 (.tmp 56)) ?_
      refine g_pure 20 (some 58) (.pick (.tmp 50) (.tmp 57) (.const (.bool false))) ?_
      refine g_pure 21 (some 59) (.pick (.tmp 48) (.const (.bool true)) (.tmp 58)) ?_
      refine g_pure 22 (some 60) (.move (.tmp 59)) ?_
      refine g_pure 23 (some 61) (.move (.tmp 9)) ?_
      refine g_pure 24 (some 62) (.unOp .not 4 (.tmp 61)) ?_
      refine g_pure 25 (some 63) (.move (.tmp 62)) ?_
      refine g_take 26 (some 64) (.load 40 (.tmp 8)) (by intro w hSw; (obtain ⟨s0, s1, s2, s3⟩ := hSw); go_simp; try with_reducible rfl) ?_
      refine g_pure 27 (some 65) (.build 40 #[]) ?_
      refine wpAnyG_ready (rs := [28]) (by kernel_rfl) (by simp) ?_
      refine AllReadyG.cons (o := ⟨some 66, .call { callee := .value (.func 21), args := #[.tmp 64, .tmp 65], argTypes := #[40, 40] }, 4, _, _, some (25, true)⟩) rfl (fun K hK => ?_) AllReadyG.nil
      go_simp
      go_at_call 21
      refine (HSm.out U0).mono ?_
      rintro e v1 ⟨rfl, kk⟩
      have K1 : Hid (Kp [] w5 v1) := kt K0.out kk
      clear kk
      go_wp2_with fail
      refine hK.out _ _ (CC.out _ K1.out) (fun hHeld1 => ?_)
      clear hK K hHeld
      try simp only [Act.put, pu1, pu2, pu3]
      refine g_pure 29 (some 67) (.unOp .not 4 (.tmp 66)) ?_
      refine g_pure 30 (some 68) (.pick (.tmp 63) (.tmp 67) (.const (.bool false))) ?_
      refine g_pure 31 (some 69) (.pick (.tmp 60) (.const (.bool true)) (.tmp 68)) ?_
      refine wpAnyG_free (by kernel_rfl) ?_
      refine wpAny_done (by kernel_rfl) ?_ _
      skip
      have KZ : Hid (Kp [] w1 v1) := kt K5.out K1.out
      clear K0 K1 CC HSm
      all_goals go_wp2
      all_goals go_roundw
      case rel => exact ⟨zs.length + 2, by omega, by go_num, KZ.out⟩
      case measure => simp [intOf] <;> omega
    · rw [show (((j + 1 : Nat) : Int) - 1) = (j : Int) by omega] at q0 ⊢
      have HAt := at_list w0 wr q B zs j (HL.out wr kr) hj
      have HKr : Hid (Kp [] w1 wr) := kr
      obtain ⟨bb, of, xo, xn, xc, hbo, c0, c1, c2, c3, _, _, hsm⟩ := (HZ.out wr kr).get j hj
      have CZ : Hid (∀ W, Kp [] wr W → W.cell? ⟨bb, of + j * 4, none⟩ = some (.bool zs[j].1) ∧ W.cell? ⟨bb, of + j * 4 + 1, none⟩ = some (.int .i64 zs[j].2.1) ∧ W.cell? ⟨bb, of + j * 4 + 2, none⟩ = some (.string zs[j].2.2.1) ∧ W.cell? ⟨bb, of + j * 4 + 3, none⟩ = some (.slice xo xn xc) ∧ Sm W (zs[j].1, zs[j].2.1, zs[j].2.2.1, xo, xn, xc) zs[j]) := fun W kW => by
        refine ⟨?_, ?_, ?_, ?_, hsm.kept kW⟩
        · rw [kW.cell (block_lt_of_cell c0) (by simp)]; exact c0
        · rw [kW.cell (block_lt_of_cell c1) (by simp)]; exact c1
        · rw [kW.cell (block_lt_of_cell c2) (by simp)]; exact c2
        · rw [kW.cell (block_lt_of_cell c3) (by simp)]; exact c3
      generalize zs[j] = x at HAt CZ
      have q1 : decide ((0 : Int) ≤ (j : Int)) = true := decide_eq_true (by omega)
      have q3 : (0 : Int) ≤ (j : Int) := by omega
      have q4 : (j : Int) < (zs.length : Int) := by omega
      have q2 : decide ((j : Int) < (zs.length : Int)) = true := decide_eq_true (by omega)
      clear kr c0 c1 c2 c3 hsm
      unfold rv at HAt
      go_wp2_with fail
      refine HAt.mono ?_
      rintro e w4 ⟨⟨ym, yh, yn, yo, yl, yc⟩, rfl, hy, k4⟩
      simp only
      obtain ⟨w5, hw5⟩ : ∃ w5, w5 = w4.alloc (.cells #[.bool ym, .int .i64 yh, .string yn, .slice yo yl yc] 40) := ⟨_, rfl⟩
      have k45 : Kp [] w4 w5 := by rw [hw5]; exact (Kp.refl _ _).alloc _
      have k5 : Kp [] wr w5 := kt k4 k45
      have hb5 : w5.heap[w4.heap.size]? = some (.cells #[.bool ym, .int .i64 yh, .string yn, .slice yo yl yc] 40 (0, 0)) := by rw [hw5]; exact heap_new _ _
      have K5 : Hid (Kp [] w1 w5) := kt HKr.out k5
      obtain ⟨gy, hgy⟩ : ∃ g, g = w4.heap.size := ⟨_, rfl⟩
      rw [← hgy] at hb5
      obtain ⟨xm, xh, xs, xl⟩ := x
      simp only at CZ
      have CC : Hid (∀ W, Kp [] w5 W → W.cell? ⟨gy, 0, none⟩ = some (.bool ym) ∧ W.cell? ⟨gy, 1, none⟩ = some (.int .i64 yh) ∧ W.cell? ⟨gy, 2, none⟩ = some (.string yn) ∧ W.cell? ⟨gy, 3, none⟩ = some (.slice yo yl yc) ∧
          W.cell? ⟨bb, of + j * 4, none⟩ = some (.bool xm) ∧ W.cell? ⟨bb, of + j * 4 + 1, none⟩ = some (.int .i64 xh) ∧ W.cell? ⟨bb, of + j * 4 + 2, none⟩ = some (.string xs) ∧ W.cell? ⟨bb, of + j * 4 + 3, none⟩ = some (.slice xo xn xc)) := fun W kW => by
        have h2 := (kW.block _ (lt_of hb5) (by simp)).trans hb5
        obtain ⟨z0, z1, z2, z3, _⟩ := CZ.out W (kt k5 kW)
        exact ⟨cell_of h2 0, cell_of h2 1, cell_of h2 2, cell_of h2 3, z0, z1, z2, z3⟩
      have HSm : Hid (∀ W, Kp [] w5 W → Calls Try.prog 21 #[.agg #[.bool ym, .int .i64 yh, .string yn, .slice yo yl yc], .agg #[.bool xm, .int .i64 xh, .string xs, .slice xo xn xc]] W fun e w' => e = .returned (.bool true) ∧ Kp [] W w') := fun W kW => same_any W (ym, yh, yn, yo, yl, yc) (xm, xh, xs, xo, xn, xc) _ (hy.kept (kt k45 kW)) (CZ.out W (kt k5 kW)).2.2.2.2
      clear HAt k4 k5 k45 hb5 CZ hy
      subst hbo
      go_upto_region 7 with fail
      rw [← hw5, ← hgy]
      clear hw5 hgy
      obtain ⟨U0, hU0⟩ : ∃ V, V = w5.drew := ⟨_, rfl⟩
      have K0 : Hid (Kp [] w5 U0) := by rw [hU0]; exact (Kp.refl _ _).drew
      refine wp_region_g (S := fun V => V.cell? ⟨gy, 0, none⟩ = some (.bool ym) ∧ V.cell? ⟨gy, 1, none⟩ = some (.int .i64 yh) ∧ V.cell? ⟨gy, 2, none⟩ = some (.string yn) ∧ V.cell? ⟨gy, 3, none⟩ = some (.slice yo yl yc) ∧ V.cell? ⟨bb, of + j * 4, none⟩ = some (.bool xm) ∧ V.cell? ⟨bb, of + j * 4 + 1, none⟩ = some (.int .i64 xh) ∧ V.cell? ⟨bb, of + j * 4 + 2, none⟩ = some (.string xs) ∧ V.cell? ⟨bb, of + j * 4 + 3, none⟩ = some (.slice xo xn xc)) (T := []) (by kernel_rfl) (CC.out _ (Kp.refl [] w5).drew) (fun hHeld => ?_)
      rw [← hU0] at hHeld ⊢
      clear hU0
      refine g_pure 0 (some 38) (.move (.tmp 9)) ?_
      refine g_pure 1 (some 39) (.move (.tmp 7)) ?_
      refine g_pure 2 (some 40) (.binOp .geq 3 (.tmp 39) (.const (.int .i64 0)) 3) ?_
      refine g_pure 3 (some 41) (.move (.tmp 40)) ?_
      refine g_pure 4 (some 42) (.move (.tmp 7)) ?_
      refine g_pure 5 (some 43) (.move (.tmp 1)) ?_
      refine g_pure 6 (some 44) (.call { callee := .builtin .len, args := #[.tmp 43], argTypes := #[24] }) ?_
      refine g_pure 7 (some 45) (.binOp .lss 3 (.tmp 42) (.tmp 44) 3) ?_
      refine g_pure 8 (some 46) (.pick (.tmp 41) (.tmp 45) (.const (.bool false))) ?_
      refine g_pure 9 (some 47) (.binOp .neq 4 (.tmp 38) (.tmp 46) 4) ?_
      refine g_pure 10 (some 48) (.move (.tmp 47)) ?_
      refine g_pure 11 (some 49) (.move (.tmp 9)) ?_
      refine g_pure 12 (some 50) (.move (.tmp 49)) ?_
      refine g_take 13 (some 51) (.load 40 (.tmp 8)) (by intro w hSw; (obtain ⟨s0, s1, s2, s3, s4, s5, s6, s7⟩ := hSw); go_simp; try with_reducible rfl) ?_
      refine g_pure 14 (some 52) (.move (.tmp 1)) ?_
      refine g_pure 15 (some 53) (.move (.tmp 7)) ?_
      refine g_pure 16 (some 54) (.indexAddr 24 (.tmp 52) (.tmp 53)) ?_
      refine g_take 17 (some 55) (.load 40 (.tmp 54)) (by intro w hSw; (obtain ⟨s0, s1, s2, s3, s4, s5, s6, s7⟩ := hSw); go_simp; try with_reducible rfl) ?_
      refine wpAnyG_ready (rs := [18]) (by kernel_rfl) (by simp) ?_
      refine AllReadyG.cons (o := ⟨some 56, .call { callee := .value (.func 21), args := #[.tmp 51, .tmp 55], argTypes := #[40, 40] }, 4, _, _, some (12, true)⟩) rfl (fun K hK => ?_) AllReadyG.nil
      go_simp
      go_at_call 21
      refine (HSm.out U0 K0.out).mono ?_
      rintro e v1 ⟨rfl, kk⟩
      have K1 : Hid (Kp [] w5 v1) := kt K0.out kk
      clear kk
      go_wp2_with fail
      refine hK.out _ _ (CC.out _ K1.out) (fun hHeld1 => ?_)
      clear hK K hHeld
      try simp only [Act.put, pu1, pu2, pu3]
      refine g_pure 19 (some 57) (.unOp .not 4 (.tmp 56)) ?_
      refine g_pure 20 (some 58) (.pick (.tmp 50) (.tmp 57) (.const (.bool false))) ?_
      refine g_pure 21 (some 59) (.pick (.tmp 48) (.const (.bool true)) (.tmp 58)) ?_
      refine g_pure 22 (some 60) (.move (.tmp 59)) ?_
      refine g_pure 23 (some 61) (.move (.tmp 9)) ?_
      refine g_pure 24 (some 62) (.unOp .not 4 (.tmp 61)) ?_
      refine g_pure 25 (some 63) (.move (.tmp 62)) ?_
      refine g_skip 26 (some 64) (.load 40 (.tmp 8)) ?_
      refine g_skip 27 (some 65) (.build 40 #[]) ?_
      refine g_skip 28 (some 66) (.call { callee := .value (.func 21), args := #[.tmp 64, .tmp 65], argTypes := #[40, 40] }) ?_
      refine g_skip 29 (some 67) (.unOp .not 4 (.tmp 66)) ?_
      refine g_pure 30 (some 68) (.pick (.tmp 63) (.tmp 67) (.const (.bool false))) ?_
      refine g_pure 31 (some 69) (.pick (.tmp 60) (.const (.bool true)) (.tmp 68)) ?_
      refine wpAnyG_free (by kernel_rfl) ?_
      refine wpAny_done (by kernel_rfl) ?_ _
      skip
      have KZ : Hid (Kp [] w1 v1) := kt K5.out K1.out
      clear K0 K1 CC HSm
      all_goals go_wp2
      all_goals go_roundw
      case rel => exact ⟨j + 2, by omega, by go_num, KZ.out⟩
      case measure => simp [intOf] <;> omega

end Go.Proofs.Ytadcpkdnpfmphaa.Ints
