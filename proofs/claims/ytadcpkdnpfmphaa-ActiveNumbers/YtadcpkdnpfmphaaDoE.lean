/-
  do of the laws: kind 4 (0: any other).
-/
import Derived.Test.YtadcpkdnpfmphaaDn
namespace Go.Proofs.Ytadcpkdnpfmphaa.Ints
open Go.RowKit
set_option linter.unusedSimpArgs false
set_option linter.unusedVariables false

set_option maxRecDepth 100000 in
set_option maxHeartbeats 8000000 in
theorem do_4 (w0 w : World) (q : Nat) (B : List Nat) (rl : List Raw) (zs : List Ent) (bo : Option Addr) (n d : Nat) (H N I : Int) (sa : Option Addr) (sn sc : Nat) (al : List Att) (hL : Li w0 w q B zs) (hz : Ls w bo n d rl zs) (ho : Off B bo) (hk : Kp [] w0 w) (hat : Rp w sa sn sc al) (hsn : sn ≤ 140737488355328) (hl : zs.length < 900) :
    Calls Try.prog 8 #[.pointer (some ⟨q, 0, none⟩), .slice bo n d, .agg #[.int .i64 4, .int .i64 H, .int .i64 N, .int .i64 I, .slice sa sn sc]] w (Dn w0 q zs) := by
  obtain rfl : n = zs.length := hz.len
  have hcap := hz.rs.cap
  obtain ⟨w1, hw1⟩ : ∃ w1, w1 = w.alloc (.cells #[.int .i64 4, .int .i64 H, .int .i64 N, .int .i64 I, .slice sa sn sc] 29) := ⟨_, rfl⟩
  have k1 : Kp [] w w1 := by rw [hw1]; exact (Kp.refl _ _).alloc _
  have hb1 : w1.heap[w.heap.size]? = some (.cells #[.int .i64 4, .int .i64 H, .int .i64 N, .int .i64 I, .slice sa sn sc] 29 (0, 0)) := by rw [hw1]; exact heap_new _ _
  obtain ⟨ga, hga⟩ : ∃ g, g = w.heap.size := ⟨_, rfl⟩
  rw [← hga] at hb1
  have HA : Hid (∀ W, Ev w0 B w1 W → W.cell? ⟨ga, 0, none⟩ = some (.int .i64 4) ∧ W.cell? ⟨ga, 1, none⟩ = some (.int .i64 H) ∧ W.cell? ⟨ga, 2, none⟩ = some (.int .i64 N) ∧ W.cell? ⟨ga, 3, none⟩ = some (.int .i64 I) ∧ W.cell? ⟨ga, 4, none⟩ = some (.slice sa sn sc)) := fun W e => by
    have h2 := e.cells _ _ _ hb1 not_pil_ask (fun e => absurd e ask_item)
    exact ⟨cell_of h2 0, cell_of h2 1, cell_of h2 2, cell_of h2 3, cell_of h2 4⟩
  have HK1 : Hid (∀ W, Ev w0 B w1 W → Kp [] w0 W) := fun W e => e.kp (kt hk k1)
  have l1 := hL.kept k1
  have z1 := hz.kept k1
  have a1 := hat.kept k1
  have HHL : Hid (zs.length < 900) := hl
  have HNx := names_any w1 N
  obtain ⟨X, hX⟩ : ∃ X, nm N = X := ⟨_, rfl⟩
  rw [hX] at HNx
  have HSh : Hid (∀ W, Kp [] w1 W → Calls Try.prog 14 #[.slice sa sn sc] W fun e w' => ∃ ao' n' c', e = .returned (.slice ao' n' c') ∧ Mp W w' ao' n' c' (short al)) := fun W kW => short_any W al sa sn sc (a1.kept kW) hsn
  obtain ⟨A, hAl⟩ : ∃ A, short al = A := ⟨_, rfl⟩
  have hA6 : A.length ≤ 6 := by rw [← hAl]; exact short_len al
  have hAf : fits A := by rw [← hAl]; exact short_fits al
  rw [hAl] at HSh
  have HAL : Hid (A.length ≤ 6 ∧ fits A) := ⟨hA6, hAf⟩
  have HPl : Hid (∀ W, Kp [] w1 W → Calls Try.prog 25 #[.slice bo zs.length d, .int .i64 H] W fun e w' => e = .returned (.int .i64 (plc2 H zs)) ∧ w' = W) := fun W kW => lplace_any W rl zs H bo zs.length d (z1.kept kW) (by omega)
  have HPr : Hid (-1 ≤ plc2 H zs ∧ plc2 H zs < zs.length) := plc2_range H zs
  have HLi : Hid (∀ W, Kp [] w1 W → Li w0 W q B zs) := fun W kW => l1.kept kW
  have HLs : Hid (∀ W, Kp [] w1 W → Ls W bo zs.length d rl zs) := fun W kW => z1.kept kW
  have HOf : Hid (Off B bo) := ho
  obtain ⟨PK, hPK⟩ : ∃ k, plc2 H zs = k := ⟨_, rfl⟩
  rw [hPK] at HPl HPr
  have HPK : Hid (plc2 H zs = PK) := hPK
  obtain ⟨a0, a1', a2, a3, a4⟩ := HA.out w1 (Ev.refl _ _ _)
  clear l1 z1 a1 k1 hb1 hL hz hat ho hk hX hAl hA6 hAf hPK
  go_enter Try.func8, Try.ntmps8
  go_upto_region 1 with fail
  rw [← hw1, ← hga]
  clear hw1 hga
  go_wp2_with fail
  refine HNx.mono ?_
  rintro e w2 ⟨rfl, k2⟩
  have K2 : Hid (Kp [] w1 w2) := k2
  obtain ⟨b0, b1, b2, b3, b4⟩ := HA.out w2 (Ev.of_kp k2)
  have HS2 := HSh.out w2 k2
  clear HNx HSh k2 a0 a1' a2 a3 a4
  go_wp2_with fail
  refine HS2.mono ?_
  rintro e U ⟨so, s1, s2, rfl, M⟩
  have KU : Hid (Kp [] w1 U) := kt K2.out M.kp
  have HRz : Hid (∀ W, Ev w0 B U W → Rz W so s1 s2 A) := fun W e => (Rz.of_mp M).ev e
  have HS6 : Hid (s1 ≤ 6) := by rw [M.len]; exact HAL.out.1
  obtain ⟨c0, c1, c2, c3, c4⟩ := HA.out U (Ev.of_kp KU.out)
  have HP2 := HPl.out U KU.out
  clear HS2 HPl M K2 b0 b1 b2 b3 b4
  go_wp2_with fail
  refine HP2.mono ?_
  rintro e w9 ⟨rfl, hw⟩
  have hw2 := hw.symm
  clear hw
  subst hw2
  clear HP2
  have lU := HLi.out U KU.out
  have zU := HLs.out U KU.out
  clear HLi HLs
  have H4 := find_list w0 U q B zs X lU (by have := HHL.out; omega)
  have HBe : Hid (∀ W, Kp [] U W → Calls Try.prog 28 #[.slice bo zs.length d] W fun e w' => e = .returned (.int .i64 (beh zs : Nat)) ∧ w' = W) := fun W kW => lbehind_any W rl zs bo zs.length d (zU.kept kW) (by have := HHL.out; omega)
  have HLS : Hid (∀ W, Kp [] U W → Ls W bo zs.length d rl zs) := fun W kW => zU.kept kW
  have HF : Hid (∀ W, Kp [] U W → Dt w0 w1 q B (zs.length + 1) W zs bo zs.length d) := fun W kW => ⟨rl, B, lU.kept kW, zU.kept kW, HOf.out, Ev.of_kp (kt KU.out kW), by omega⟩
  have hbl := beh_le zs
  have HBN : Hid (∀ k (hk : k < zs.length), beh zs ≤ k → zs[k].1 = false) := fun k hk hb => beh_none zs k hk hb
  have HFs : Hid (fndR X (zs.take (beh zs)).reverse = -1) := fnd_stop X zs
  have HFr := fnm_range X zs
  have HFe : Hid (fndR X (zs.take zs.length).reverse = fnm X zs) := by rw [rev_all]; rfl
  obtain ⟨FK, hFK⟩ : ∃ k, fnm X zs = k := ⟨_, rfl⟩
  rw [hFK] at H4 HFr HFe
  have HFR : Hid (-1 ≤ FK ∧ FK < zs.length) := HFr
  generalize beh zs = be at HBe hbl HBN HFs
  clear lU zU KU HRz HS6 HAL HPr HPK HOf hFK HFr
  unfold rv at H4
  go_wp2_with fail
  refine H4.mono ?_
  rintro e w4 ⟨⟨⟨ym, yh, yn, yo, yl, yc⟩, rfl, hy⟩, k4⟩
  simp only
  obtain ⟨w5, hw5⟩ : ∃ w5, w5 = w4.alloc (.cells #[.bool ym, .int .i64 yh, .string yn, .slice yo yl yc] 40) := ⟨_, rfl⟩
  have k45 : Kp [] w4 w5 := by rw [hw5]; exact (Kp.refl _ _).alloc _
  have k5 : Kp [] U w5 := kt k4 k45
  have hb5 : w5.heap[w4.heap.size]? = some (.cells #[.bool ym, .int .i64 yh, .string yn, .slice yo yl yc] 40 (0, 0)) := by rw [hw5]; exact heap_new _ _
  have K5 : Hid (Kp [] U w5) := k5
  obtain ⟨gy, hgy⟩ : ∃ g, g = w4.heap.size := ⟨_, rfl⟩
  rw [← hgy] at hb5
  have HB5 := HBe.out w5 k5
  have HY : Hid (∀ W, Kp [] w5 W → (W.cell? ⟨gy, 0, none⟩ = some (.bool ym) ∧ W.cell? ⟨gy, 1, none⟩ = some (.int .i64 yh) ∧ W.cell? ⟨gy, 2, none⟩ = some (.string yn) ∧ W.cell? ⟨gy, 3, none⟩ = some (.slice yo yl yc)) ∧ Sm W (ym, yh, yn, yo, yl, yc) (gtk zs FK)) := fun W kW => by
    have h2 := (kW.block _ (lt_of hb5) (by simp)).trans hb5
    exact ⟨⟨cell_of h2 0, cell_of h2 1, cell_of h2 2, cell_of h2 3⟩, hy.kept (kt k45 kW)⟩
  have HLS5 : Hid (∀ W, Kp [] w5 W → Ls W bo zs.length d rl zs) := fun W kW => HLS.out W (kt k5 kW)
  clear H4 HBe HLS k4 k45 k5 hb5 hy c0 c1 c2 c3 c4
  go_upto_region 17 with fail
  rw [← hw5, ← hgy]
  clear hw5 hgy
  go_wp2_with fail
  refine HB5.mono ?_
  rintro e w9 ⟨rfl, hw⟩
  have hw2 := hw.symm
  clear hw
  subst hw2
  clear HB5
  go_wp2
  go_loopw [14, 15] (fun at' i wr => ∃ k : Nat, be ≤ k ∧ k ≤ zs.length ∧ at' = .int .i64 (fndR X (zs.take k).reverse) ∧ i = .int .i64 (k : Int) ∧ wr = w5) (fun _ i _ => zs.length - (intOf i).toNat)
  case atStart => exact ⟨be, Nat.le_refl _, hbl, by rw [HFs.out], rfl, rfl⟩
  case round =>
    obtain ⟨k, hbk, hkl, rfl, rfl, rfl⟩ := hrel
    by_cases hlt : k < zs.length
    · obtain ⟨bb, of, xo, xn, xc, hbo, e0, e1, e2, e3, _, _, _⟩ := (HLS5.out wr (Kp.refl _ _)).get k hlt
      have hm := HBN.out k hlt hbk
      have hstep : fndR X (zs.take (k + 1)).reverse = if eqs (zs[k]).2.2.1 X then (k : Int) else fndR X (zs.take k).reverse := by
        rw [rev_take zs k hlt, fndR, hm]
        have hlj : (zs.take k).reverse.length = k := by simp; omega
        rw [hlj]
        simp
      generalize zs[k] = y at e0 e1 e2 e3 hstep hm
      obtain ⟨m, hh, nx, l⟩ := y
      simp only at e2 hstep
      have HSt : Hid (fndR X (zs.take (k + 1)).reverse = if eqs nx X then (k : Int) else fndR X (zs.take k).reverse) := hstep
      subst hbo
      have q3 : (0 : Int) ≤ (k : Int) := by omega
      have q4 : (k : Int) < (zs.length : Int) := by omega
      clear e0 e1 e3 hstep hm HF HY HA HK1
      generalize fndR X (zs.take k).reverse = fk at HSt
      cases hq : (nx.toList == X.toList)
      · have HS2 : Hid (fndR X (zs.take (k + 1)).reverse = fk) := by rw [HSt.out, eqs, hq]; rfl
        clear HSt
        go_wp2
        go_roundw
        case rel => exact ⟨k + 1, by omega, by omega, by rw [HS2.out], by go_num, by first | rfl | trivial⟩
        case measure => simp [intOf]; omega
      · have HS2 : Hid (fndR X (zs.take (k + 1)).reverse = (k : Int)) := by rw [HSt.out, eqs, hq]; rfl
        clear HSt
        go_wp2
        go_roundw
        case rel => exact ⟨k + 1, by omega, by omega, by rw [HS2.out], by go_num, by first | rfl | trivial⟩
        case measure => simp [intOf]; omega
    · obtain rfl : k = zs.length := by omega
      rw [HFe.out]
      clear HFe HFs HBN hbk hkl hlt hbl
      obtain ⟨p1, p2⟩ := HFR.out
      clear HFR
      rcases (show FK = -1 ∨ ∃ k : Nat, FK = k by exact (if h : 0 ≤ FK then Or.inr ⟨FK.toNat, by omega⟩ else Or.inl (by omega))) with rfl | ⟨k, rfl⟩
      · have CC : Hid (∀ W, Kp [] wr W → W.cell? ⟨gy, 0, none⟩ = some (.bool ym) ∧ W.cell? ⟨gy, 1, none⟩ = some (.int .i64 yh) ∧ W.cell? ⟨gy, 2, none⟩ = some (.string yn) ∧ W.cell? ⟨gy, 3, none⟩ = some (.slice yo yl yc)) := fun W kW => (HY.out W kW).1
        have HSm : Hid (∀ W, Kp [] wr W → Calls Try.prog 21 #[.agg #[.bool ym, .int .i64 yh, .string yn, .slice yo yl yc], .agg #[.bool false, .int .i64 0, .string ⟨#[]⟩, .slice none 0 0]] W fun e w' => e = .returned (.bool true) ∧ Kp [] W w') := fun W kW => same_any W (ym, yh, yn, yo, yl, yc) r0 e0 (HY.out W kW).2 (sm_none W)
        have q1 : decide ((0 : Int) ≤ -1) = false := rfl
        clear HY HLS5 p1 p2
        go_upto_region 23 with fail
        obtain ⟨A0, hA0⟩ : ∃ V, V = wr.drew := ⟨_, rfl⟩
        have KA0 : Hid (Kp [] wr A0) := by rw [hA0]; exact (Kp.refl _ _).drew
        refine wp_region_g (S := fun V => V.cell? ⟨gy, 0, none⟩ = some (.bool ym) ∧ V.cell? ⟨gy, 1, none⟩ = some (.int .i64 yh) ∧ V.cell? ⟨gy, 2, none⟩ = some (.string yn) ∧ V.cell? ⟨gy, 3, none⟩ = some (.slice yo yl yc)) (T := []) (by kernel_rfl) (CC.out _ (Kp.refl [] wr).drew) (fun hHeld => ?_)
        rw [← hA0] at hHeld ⊢
        clear hA0
        refine g_pure 0 (some 84) (.move (.tmp 13)) ?_
        refine g_pure 1 (some 85) (.move (.tmp 14)) ?_
        refine g_pure 2 (some 86) (.binOp .geq 3 (.tmp 85) (.const (.int .i64 0)) 3) ?_
        refine g_pure 3 (some 87) (.binOp .eql 4 (.tmp 84) (.tmp 86) 4) ?_
        refine g_pure 4 (some 88) (.move (.tmp 87)) ?_
        refine g_pure 5 (some 89) (.move (.tmp 13)) ?_
        refine g_pure 6 (some 90) (.unOp .not 4 (.tmp 89)) ?_
        refine g_pure 7 (some 91) (.move (.tmp 90)) ?_
        refine g_skip 8 (some 92) (.load 40 (.tmp 12)) ?_
        refine g_skip 9 (some 93) (.move (.tmp 1)) ?_
        refine g_skip 10 (some 94) (.move (.tmp 14)) ?_
        refine g_skip 11 (some 95) (.indexAddr 24 (.tmp 93) (.tmp 94)) ?_
        refine g_skip 12 (some 96) (.load 40 (.tmp 95)) ?_
        refine g_skip 13 (some 97) (.call { callee := .value (.func 21), args := #[.tmp 92, .tmp 96], argTypes := #[40, 40] }) ?_
        refine g_pure 14 (some 98) (.pick (.tmp 91) (.const (.bool true)) (.tmp 97)) ?_
        refine g_pure 15 (some 99) (.pick (.tmp 88) (.tmp 98) (.const (.bool false))) ?_
        refine g_pure 16 (some 100) (.move (.tmp 99)) ?_
        refine g_pure 17 (some 101) (.move (.tmp 13)) ?_
        refine g_pure 18 (some 102) (.move (.tmp 101)) ?_
        refine g_take 19 (some 103) (.load 40 (.tmp 12)) (by intro w hSw; (obtain ⟨u0, u1, u2, u3⟩ := hSw); go_simp; try with_reducible rfl) ?_
        refine g_pure 20 (some 104) (.build 40 #[]) ?_
        refine wpAnyG_ready (rs := [21]) (by kernel_rfl) (by simp) ?_
        refine AllReadyG.cons (o := ⟨some 105, .call { callee := .value (.func 21), args := #[.tmp 103, .tmp 104], argTypes := #[40, 40] }, 4, _, _, some (18, false)⟩) rfl (fun K hK => ?_) AllReadyG.nil
        go_simp
        go_at_call 21
        refine (HSm.out A0 KA0.out).mono ?_
        rintro e A1 ⟨rfl, kk⟩
        have KA1 : Hid (Kp [] wr A1) := kt KA0.out kk
        clear kk
        go_wp2_with fail
        refine hK.out _ _ (CC.out _ KA1.out) (fun hHeld1 => ?_)
        clear hK K hHeld
        try simp only [Act.put, pu1, pu2, pu3]
        refine g_pure 22 (some 106) (.pick (.tmp 102) (.const (.bool true)) (.tmp 105)) ?_
        refine g_pure 23 (some 107) (.pick (.tmp 100) (.tmp 106) (.const (.bool false))) ?_
        refine g_pure 24 (some 11) (.assign (.tmp 107)) ?_
        refine wpAnyG_free (by kernel_rfl) ?_
        refine wpAny_done (by kernel_rfl) ?_ _
        skip
        have HD := Hid.mk (HF.out _ (kt K5.out KA1.out))
        clear HF CC HSm KA0 KA1 K5
        obtain ⟨rT, BT, lT, zT, oT, eT, bT⟩ := HD.out
        have HTl := tells_any w0 A1 q BT rT zs bo zs.length d 4 H N I sa sn sc lT zT (by have := HHL.out; omega)
        obtain ⟨c0, c1, c2, c3, c4⟩ := HA.out _ eT
        have HFin : Hid (∀ V, Kp [] A1 V → Dn w0 q zs (.returned (.tuple #[.slice bo zs.length d, .bool true])) V) := fun V kV => ⟨_, _, _, rT, zs, BT, rfl, lT.kept kV, zT.kept kV, oT, kt (HK1.out _ eT) kV, bT⟩
        clear lT zT oT eT bT HA HK1 HD
        go_wp2_with fail
        refine HTl.mono ?_
        rintro e w8 ⟨rfl, k8⟩
        have HF8 := Hid.mk (HFin.out w8 k8)
        clear HTl HFin k8
        go_wp2
        go_ret2
        exact HF8.out
      · have hk : k < zs.length := by omega
        obtain ⟨bb, of, xo, xn, xc, hbo, _⟩ := (HLS5.out wr (Kp.refl _ _)).get k hk
        have hgt := gtk_at zs k hk
        have CZ : Hid (∀ W, Kp [] wr W → W.cell? ⟨bb, of + k * 4, none⟩ = some (.bool zs[k].1) ∧ W.cell? ⟨bb, of + k * 4 + 1, none⟩ = some (.int .i64 zs[k].2.1) ∧ W.cell? ⟨bb, of + k * 4 + 2, none⟩ = some (.string zs[k].2.2.1) ∧ W.cell? ⟨bb, of + k * 4 + 3, none⟩ = some (.slice (rl[k]'(by rw [(HLS5.out wr (Kp.refl _ _)).sm.len]; exact hk)).2.2.2.1 (rl[k]'(by rw [(HLS5.out wr (Kp.refl _ _)).sm.len]; exact hk)).2.2.2.2.1 (rl[k]'(by rw [(HLS5.out wr (Kp.refl _ _)).sm.len]; exact hk)).2.2.2.2.2) ∧
            Sm W (rl[k]'(by rw [(HLS5.out wr (Kp.refl _ _)).sm.len]; exact hk)) zs[k]) := fun W kW => by
          have hls := HLS5.out W kW
          have hrk : k < rl.length := by rw [hls.sm.len]; exact hk
          obtain ⟨b', o', hb', e0, e1, e2, e3⟩ := hls.rs.get k hrk
          rw [hbo] at hb'
          simp only [Option.some.injEq, Addr.mk.injEq, and_true] at hb'
          obtain ⟨rfl, rfl⟩ := hb'
          have hsm := hls.sm.get k hrk hk
          exact ⟨by rw [← hsm.1]; exact e0, by rw [← hsm.2.1]; exact e1, by rw [← hsm.2.2.1]; exact e2, e3, hsm⟩
        rw [hgt] at HY
        generalize rl[k]'(by rw [(HLS5.out wr (Kp.refl _ _)).sm.len]; exact hk) = rk at CZ
        generalize zs[k] = x at CZ HY
        obtain ⟨km, kh, kn, kso, ksn, ksc⟩ := rk
        obtain ⟨xm, xh, xs, xl⟩ := x
        simp only at CZ
        have CC : Hid (∀ W, Kp [] wr W → W.cell? ⟨gy, 0, none⟩ = some (.bool ym) ∧ W.cell? ⟨gy, 1, none⟩ = some (.int .i64 yh) ∧ W.cell? ⟨gy, 2, none⟩ = some (.string yn) ∧ W.cell? ⟨gy, 3, none⟩ = some (.slice yo yl yc) ∧
            W.cell? ⟨bb, of + k * 4, none⟩ = some (.bool xm) ∧ W.cell? ⟨bb, of + k * 4 + 1, none⟩ = some (.int .i64 xh) ∧ W.cell? ⟨bb, of + k * 4 + 2, none⟩ = some (.string xs) ∧ W.cell? ⟨bb, of + k * 4 + 3, none⟩ = some (.slice kso ksn ksc)) := fun W kW => by
          obtain ⟨⟨y0, y1, y2, y3⟩, _⟩ := HY.out W kW
          obtain ⟨z0, z1, z2, z3, _⟩ := CZ.out W kW
          exact ⟨y0, y1, y2, y3, z0, z1, z2, z3⟩
        have HSm : Hid (∀ W, Kp [] wr W → Calls Try.prog 21 #[.agg #[.bool ym, .int .i64 yh, .string yn, .slice yo yl yc], .agg #[.bool xm, .int .i64 xh, .string xs, .slice kso ksn ksc]] W fun e w' => e = .returned (.bool true) ∧ Kp [] W w') := fun W kW => by
          have h5 := (CZ.out W kW).2.2.2.2
          have h6 : Sm W (xm, xh, xs, kso, ksn, ksc) (xm, xh, xs, xl) := ⟨rfl, rfl, rfl, h5.2.2.2.1, h5.2.2.2.2⟩
          exact same_any W (ym, yh, yn, yo, yl, yc) (xm, xh, xs, kso, ksn, ksc) _ (HY.out W kW).2 h6
        have q1 : decide ((0 : Int) ≤ (k : Int)) = true := decide_eq_true (by omega)
        have q3 : (0 : Int) ≤ (k : Int) := by omega
        have q4 : (k : Int) < (zs.length : Int) := by omega
        clear HY HLS5 p1 p2 CZ hgt
        subst hbo
        go_upto_region 23 with fail
        obtain ⟨A0, hA0⟩ : ∃ V, V = wr.drew := ⟨_, rfl⟩
        have KA0 : Hid (Kp [] wr A0) := by rw [hA0]; exact (Kp.refl _ _).drew
        refine wp_region_g (S := fun V => V.cell? ⟨gy, 0, none⟩ = some (.bool ym) ∧ V.cell? ⟨gy, 1, none⟩ = some (.int .i64 yh) ∧ V.cell? ⟨gy, 2, none⟩ = some (.string yn) ∧ V.cell? ⟨gy, 3, none⟩ = some (.slice yo yl yc) ∧ V.cell? ⟨bb, of + k * 4, none⟩ = some (.bool xm) ∧ V.cell? ⟨bb, of + k * 4 + 1, none⟩ = some (.int .i64 xh) ∧ V.cell? ⟨bb, of + k * 4 + 2, none⟩ = some (.string xs) ∧ V.cell? ⟨bb, of + k * 4 + 3, none⟩ = some (.slice kso ksn ksc)) (T := []) (by kernel_rfl) (CC.out _ (Kp.refl [] wr).drew) (fun hHeld => ?_)
        rw [← hA0] at hHeld ⊢
        clear hA0
        refine g_pure 0 (some 84) (.move (.tmp 13)) ?_
        refine g_pure 1 (some 85) (.move (.tmp 14)) ?_
        refine g_pure 2 (some 86) (.binOp .geq 3 (.tmp 85) (.const (.int .i64 0)) 3) ?_
        refine g_pure 3 (some 87) (.binOp .eql 4 (.tmp 84) (.tmp 86) 4) ?_
        refine g_pure 4 (some 88) (.move (.tmp 87)) ?_
        refine g_pure 5 (some 89) (.move (.tmp 13)) ?_
        refine g_pure 6 (some 90) (.unOp .not 4 (.tmp 89)) ?_
        refine g_pure 7 (some 91) (.move (.tmp 90)) ?_
        refine g_take 8 (some 92) (.load 40 (.tmp 12)) (by intro w hSw; (obtain ⟨u0, u1, u2, u3, u4, u5, u6, u7⟩ := hSw); go_simp; try with_reducible rfl) ?_
        refine g_pure 9 (some 93) (.move (.tmp 1)) ?_
        refine g_pure 10 (some 94) (.move (.tmp 14)) ?_
        refine g_pure 11 (some 95) (.indexAddr 24 (.tmp 93) (.tmp 94)) ?_
        refine g_take 12 (some 96) (.load 40 (.tmp 95)) (by intro w hSw; (obtain ⟨u0, u1, u2, u3, u4, u5, u6, u7⟩ := hSw); go_simp; try with_reducible rfl) ?_
        refine wpAnyG_ready (rs := [13]) (by kernel_rfl) (by simp) ?_
        refine AllReadyG.cons (o := ⟨some 97, .call { callee := .value (.func 21), args := #[.tmp 92, .tmp 96], argTypes := #[40, 40] }, 4, _, _, some (7, false)⟩) rfl (fun K hK => ?_) AllReadyG.nil
        go_simp
        go_at_call 21
        refine (HSm.out A0 KA0.out).mono ?_
        rintro e A1 ⟨rfl, kk⟩
        have KA1 : Hid (Kp [] wr A1) := kt KA0.out kk
        clear kk
        go_wp2_with fail
        refine hK.out _ _ (CC.out _ KA1.out) (fun hHeld1 => ?_)
        clear hK K hHeld
        try simp only [Act.put, pu1, pu2, pu3]
        refine g_pure 14 (some 98) (.pick (.tmp 91) (.const (.bool true)) (.tmp 97)) ?_
        refine g_pure 15 (some 99) (.pick (.tmp 88) (.tmp 98) (.const (.bool false))) ?_
        refine g_pure 16 (some 100) (.move (.tmp 99)) ?_
        refine g_pure 17 (some 101) (.move (.tmp 13)) ?_
        refine g_pure 18 (some 102) (.move (.tmp 101)) ?_
        refine g_skip 19 (some 103) (.load 40 (.tmp 12)) ?_
        refine g_skip 20 (some 104) (.build 40 #[]) ?_
        refine g_skip 21 (some 105) (.call { callee := .value (.func 21), args := #[.tmp 103, .tmp 104], argTypes := #[40, 40] }) ?_
        refine g_pure 22 (some 106) (.pick (.tmp 102) (.const (.bool true)) (.tmp 105)) ?_
        refine g_pure 23 (some 107) (.pick (.tmp 100) (.tmp 106) (.const (.bool false))) ?_
        refine g_pure 24 (some 11) (.assign (.tmp 107)) ?_
        refine wpAnyG_free (by kernel_rfl) ?_
        refine wpAny_done (by kernel_rfl) ?_ _
        skip
        have HD := Hid.mk (HF.out _ (kt K5.out KA1.out))
        clear HF CC HSm KA0 KA1 K5
        obtain ⟨rT, BT, lT, zT, oT, eT, bT⟩ := HD.out
        have HTl := tells_any w0 A1 q BT rT zs (some ⟨bb, of, none⟩) zs.length d 4 H N I sa sn sc lT zT (by have := HHL.out; omega)
        obtain ⟨c0, c1, c2, c3, c4⟩ := HA.out _ eT
        have HFin : Hid (∀ V, Kp [] A1 V → Dn w0 q zs (.returned (.tuple #[.slice (some ⟨bb, of, none⟩) zs.length d, .bool true])) V) := fun V kV => ⟨_, _, _, rT, zs, BT, rfl, lT.kept kV, zT.kept kV, oT, kt (HK1.out _ eT) kV, bT⟩
        clear lT zT oT eT bT HA HK1 HD
        go_wp2_with fail
        refine HTl.mono ?_
        rintro e w8 ⟨rfl, k8⟩
        have HF8 := Hid.mk (HFin.out w8 k8)
        clear HTl HFin k8
        go_wp2
        go_ret2
        exact HF8.out
end Go.Proofs.Ytadcpkdnpfmphaa.Ints
