/-
  do of the laws: kind 7 (0: any other).
-/
import Derived.Test.YtadcpkdnpfmphaaDn
namespace Go.Proofs.Ytadcpkdnpfmphaa.Ints
open Go.RowKit
set_option linter.unusedSimpArgs false
set_option linter.unusedVariables false

set_option maxRecDepth 100000 in
set_option maxHeartbeats 2000000 in
theorem do_7 (w0 w : World) (q : Nat) (B : List Nat) (rl : List Raw) (zs : List Ent) (bo : Option Addr) (n d : Nat) (H N I : Int) (sa : Option Addr) (sn sc : Nat) (al : List Att) (hL : Li w0 w q B zs) (hz : Ls w bo n d rl zs) (ho : Off B bo) (hk : Kp [] w0 w) (hat : Rp w sa sn sc al) (hsn : sn ≤ 140737488355328) (hl : zs.length < 900) :
    Calls Try.prog 8 #[.pointer (some ⟨q, 0, none⟩), .slice bo n d, .agg #[.int .i64 7, .int .i64 H, .int .i64 N, .int .i64 I, .slice sa sn sc]] w (Dn w0 q zs) := by
  obtain rfl : n = zs.length := hz.len
  have hcap := hz.rs.cap
  obtain ⟨w1, hw1⟩ : ∃ w1, w1 = w.alloc (.cells #[.int .i64 7, .int .i64 H, .int .i64 N, .int .i64 I, .slice sa sn sc] 29) := ⟨_, rfl⟩
  have k1 : Kp [] w w1 := by rw [hw1]; exact (Kp.refl _ _).alloc _
  have hb1 : w1.heap[w.heap.size]? = some (.cells #[.int .i64 7, .int .i64 H, .int .i64 N, .int .i64 I, .slice sa sn sc] 29 (0, 0)) := by rw [hw1]; exact heap_new _ _
  obtain ⟨ga, hga⟩ : ∃ g, g = w.heap.size := ⟨_, rfl⟩
  rw [← hga] at hb1
  have HA : Hid (∀ W, Ev w0 B w1 W → W.cell? ⟨ga, 0, none⟩ = some (.int .i64 7) ∧ W.cell? ⟨ga, 1, none⟩ = some (.int .i64 H) ∧ W.cell? ⟨ga, 2, none⟩ = some (.int .i64 N) ∧ W.cell? ⟨ga, 3, none⟩ = some (.int .i64 I) ∧ W.cell? ⟨ga, 4, none⟩ = some (.slice sa sn sc)) := fun W e => by
    have h2 := e.cells _ _ _ hb1 not_pil_ask (fun e => absurd e ask_item)
    exact ⟨cell_of h2 0, cell_of h2 1, cell_of h2 2, cell_of h2 3, cell_of h2 4⟩
  have HK1 : Hid (∀ W, Ev w0 B w1 W → Kp [] w0 W) := fun W e => e.kp (kt hk k1)
  have l1 := hL.kept k1
  have z1 := hz.kept k1
  have a1 := hat.kept k1
  have HHL : Hid (zs.length < 900) := hl
  have HNx := names_any w1 N
  obtain ⟨X, hX⟩ : ∃ X, nm N = X := ⟨_, rfl⟩
  rw [hX] at HNx
  have HSh : Hid (∀ W, Kp [] w1 W → Calls Try.prog 14 #[.slice sa sn sc] W fun e w' => ∃ ao' n' c', e = .returned (.slice ao' n' c') ∧ Mp W w' ao' n' c' (short al)) := fun W kW => short_any W al sa sn sc (a1.kept kW) hsn
  obtain ⟨A, hAl⟩ : ∃ A, short al = A := ⟨_, rfl⟩
  have hA6 : A.length ≤ 6 := by rw [← hAl]; exact short_len al
  have hAf : fits A := by rw [← hAl]; exact short_fits al
  rw [hAl] at HSh
  have HAL : Hid (A.length ≤ 6 ∧ fits A) := ⟨hA6, hAf⟩
  have HPl : Hid (∀ W, Kp [] w1 W → Calls Try.prog 25 #[.slice bo zs.length d, .int .i64 H] W fun e w' => e = .returned (.int .i64 (plc2 H zs)) ∧ w' = W) := fun W kW => lplace_any W rl zs H bo zs.length d (z1.kept kW) (by omega)
  have HPr : Hid (-1 ≤ plc2 H zs ∧ plc2 H zs < zs.length) := plc2_range H zs
  have HLi : Hid (∀ W, Kp [] w1 W → Li w0 W q B zs) := fun W kW => l1.kept kW
  have HLs : Hid (∀ W, Kp [] w1 W → Ls W bo zs.length d rl zs) := fun W kW => z1.kept kW
  have HOf : Hid (Off B bo) := ho
  obtain ⟨PK, hPK⟩ : ∃ k, plc2 H zs = k := ⟨_, rfl⟩
  rw [hPK] at HPl HPr
  have HPK : Hid (plc2 H zs = PK) := hPK
  obtain ⟨a0, a1', a2, a3, a4⟩ := HA.out w1 (Ev.refl _ _ _)
  clear l1 z1 a1 k1 hb1 hL hz hat ho hk hX hAl hA6 hAf hPK
  go_enter Try.func8, Try.ntmps8
  go_upto_region 1 with fail
  rw [← hw1, ← hga]
  clear hw1 hga
  go_wp2_with fail
  refine HNx.mono ?_
  rintro e w2 ⟨rfl, k2⟩
  have K2 : Hid (Kp [] w1 w2) := k2
  obtain ⟨b0, b1, b2, b3, b4⟩ := HA.out w2 (Ev.of_kp k2)
  have HS2 := HSh.out w2 k2
  clear HNx HSh k2 a0 a1' a2 a3 a4
  go_wp2_with fail
  refine HS2.mono ?_
  rintro e U ⟨so, s1, s2, rfl, M⟩
  have KU : Hid (Kp [] w1 U) := kt K2.out M.kp
  have HRz : Hid (∀ W, Ev w0 B U W → Rz W so s1 s2 A) := fun W e => (Rz.of_mp M).ev e
  have HS6 : Hid (s1 ≤ 6) := by rw [M.len]; exact HAL.out.1
  obtain ⟨c0, c1, c2, c3, c4⟩ := HA.out U (Ev.of_kp KU.out)
  have HP2 := HPl.out U KU.out
  clear HS2 HPl M K2 b0 b1 b2 b3 b4
  go_wp2_with fail
  refine HP2.mono ?_
  rintro e w9 ⟨rfl, hw⟩
  have hw2 := hw.symm
  clear hw
  subst hw2
  clear HP2
  have lU := HLi.out U KU.out
  have zU := HLs.out U KU.out
  clear HLi HLs
  have H4 := put_list w0 U q B zs I H X A so s1 s2 lU (HRz.out U (Ev.refl _ _ _)) HS6.out HAL.out.2 (by omega)
  have H5 : Hid (∀ w4, Nx w0 U q B (ins zs I (false, H, X, A)) w4 → (∃ B', Li w0 w4 q B' (ins zs I (false, H, X, A))) ∧ Ev w0 B w1 w4 ∧ Ls w4 bo zs.length d rl zs ∧ Sm w4 (false, H, X, so, s1, s2) (false, H, X, A)) := fun w4 hN => by
    obtain ⟨B', h1, h2, _⟩ := hN.ls zU HOf.out
    exact ⟨⟨B', h1⟩, Ev.ahead KU.out hN.2, h2, rfl, rfl, rfl, HRz.out w4 hN.2, HAL.out⟩
  have HAt : Hid ((bo = none ∧ zs.length = 0 ∧ d = 0) ∨ ∃ b off, bo = some ⟨b, off, none⟩) := by
    rcases zU.rs.at' with ⟨h1, h2, h3⟩ | ⟨b, off, _, h1, _⟩
    · exact Or.inl ⟨h1, h2, h3⟩
    · exact Or.inr ⟨b, off, h1⟩
  clear lU zU KU HRz HS6 HAL HPr HPK HOf
  go_wp2_with fail
  refine H4.mono ?_
  rintro e w5 ⟨rfl, hN⟩
  obtain ⟨l5, e5, z5, s5⟩ := H5.out w5 hN
  obtain ⟨m0, m1, m2, m3, m4⟩ := HA.out w5 e5
  clear H4 H5 hN c0 c1 c2 c3 c4
  have CC : Hid (∀ W, Kp [] w5 W → W.cell? ⟨ga, 1, none⟩ = some (.int .i64 H)) := fun W kW => (HA.out W (e5.back kW)).2.1
  rcases HAt.out with ⟨rfl, h0, rfl⟩ | ⟨bb, of, rfl⟩
  · clear HAt
    have hrl : rl = [] := List.eq_nil_of_length_eq_zero (by rw [z5.sm.len]; exact h0)
    rw [h0]
    rcases (show I < 0 ∨ 0 < I ∨ I = 0 from by omega) with hI | hI | hI
    · have q0 : decide (I < 0) = true := decide_eq_true hI
      have hcl : clp zs.length I = 0 := by unfold clp; omega
      have HF : Hid (∀ W ao n' c', Ms w5 W ao n' c' ([] ++ rl.take (0) ++ [((false, H, X, so, s1, s2) : Raw)] ++ rl.drop (0)) → Dt w0 w1 q B (zs.length + 1) W (zs.take (0) ++ (false, H, X, A) :: zs.drop (0)) ao n' c') := fun W ao n' c' M => Dt.made (by
        have h9 := l5
        unfold ins at h9
        rw [hcl] at h9
        exact h9) ⟨_, M, by
        have h1 := (((z5.sm.kept M.2.1).take (0)).append' (Sms.one (s5.kept M.2.1))).append' ((z5.sm.kept M.2.1).drop (0))
        simpa using h1⟩ M.2.1 e5 (by first | (simp; omega) | simp)
      
      have HST : Hid (∀ W, Kp [] w5 W → Src Try.prog 4 24 (.slice none 0 0) (0) (cz (rl.take (0))) W) := fun W kW => by
        rw [List.take_zero]
        exact Src.ofNil W Try.underlying24 0
      have HSD : Hid (∀ W, Kp [] w5 W → Src Try.prog 4 24 (.slice none 0 0) (0) (cz (rl.drop (0))) W) := fun W kW => by
        rw [hrl]
        exact Src.ofNil W Try.underlying24 0
      have HKL : Hid ((0 : Nat) ≤ zs.length) := by have := hcap; have h9 := clp_le zs.length I; rw [hcl] at h9; exact h9
      clear hcl l5 e5 z5 s5
      go_upto_region 40 with fail
      obtain ⟨A0, hA0⟩ : ∃ V, V = w5.drew := ⟨_, rfl⟩
      have KA0 : Hid (Kp [] w5 A0) := by rw [hA0]; exact (Kp.refl _ _).drew
      refine wp_region_g (S := fun V => V.cell? ⟨ga, 1, none⟩ = some (.int .i64 H)) (T := []) (by kernel_rfl) (CC.out _ (Kp.refl [] w5).drew) (fun hHeld => ?_)
      rw [← hA0] at hHeld ⊢
      clear hA0
      refine g_pure 1 (some 172) (.move (.tmp 1)) ?_
      refine g_pure 2 (some 173) (.move (.tmp 16)) ?_
      refine g_pure 3 (some 174) (.slice 24 (.tmp 172) none (some (.tmp 173)) none) ?_
      refine g_pure 5 (some 176) (.fieldAddr 29 (.tmp 5) 1) ?_
      refine g_take 6 (some 177) (.load 3 (.tmp 176)) (by intro w hSw; (have u0 := hSw); go_simp; try with_reducible rfl) ?_
      refine g_pure 7 (some 178) (.move (.tmp 8)) ?_
      refine g_pure 8 (some 179) (.move (.tmp 9)) ?_
      refine g_pure 9 (some 180) (.build 40 #[(1, .tmp 177), (2, .tmp 178), (3, .tmp 179)]) ?_
      refine g_pure 12 (some 183) (.move (.tmp 1)) ?_
      refine g_pure 13 (some 184) (.move (.tmp 16)) ?_
      refine g_pure 14 (some 185) (.slice 24 (.tmp 183) (some (.tmp 184)) none none) ?_
      refine wpAnyG_ready (rs := [0, 10]) (by kernel_rfl) (by simp) ?_
      refine AllReadyG.cons (o := ⟨some 171, .buildSlice 24 0 #[], 24, _, _, none⟩) rfl (fun K hK => ?_) ?_
      · go_simp
        have MM := Ms.empty A0
        have hl0 : A0.heap.size < (A0.alloc (.cells #[] 40)).heap.size := lt_of (heap_new A0 (.cells #[] 40))
        obtain ⟨A1, hU⟩ : ∃ V, V = World.alloc A0 (.cells #[] 40) := ⟨_, rfl⟩
        rw [← hU] at MM hl0 ⊢
        have KA1 : Hid (Kp [] w5 A1) := kt KA0.out MM.2.1
        have B0 : Hid (Kp [] w5 A0) := KA0
        obtain ⟨g0, hg0⟩ : ∃ g, A0.heap.size = g := ⟨_, rfl⟩
        rw [hg0] at MM hl0 ⊢
        clear hU hg0
        refine hK.out _ _ (CC.out _ KA1.out) (fun hHeld1 => ?_)
        clear hK K hHeld
        try simp only [Act.put, pu1, pu2, pu3]
        refine wpAnyG_ready (rs := [4, 10]) (by kernel_rfl) (by simp) ?_
        refine AllReadyG.cons (o := ⟨some 175, .call { callee := .builtin .append, args := #[.tmp 171, .tmp 174], argTypes := #[24, 24] }, 24, _, _, none⟩) rfl (fun K hK => ?_) ?_
        · obtain ⟨a4, n4, c4, A2, run, MN, ⟨aa4, rfl⟩, hn, kk⟩ := MM.app (HST.out _ KA1.out) (fun h => by simp at h) (by have := HHL.out; have := HKL.out; omega)
          refine step_app2 (by rfl) _ _ 24 24 (by rfl) _ _ (by rfl) (by rfl) run ?_
          have KA2 : Hid (Kp [] w5 A2) := kt B0.out MN.2.1
          clear MM
          have MM := MN
          have HNT : Hid (n4 = 0 + (0)) := hn
          clear run kk hn MN
          refine hK.out _ _ (CC.out _ KA2.out) (fun hHeld2 => ?_)
          clear hK K hHeld1
          try simp only [Act.put, pu1, pu2, pu3]
          refine wpAnyG_ready (rs := [10]) (by kernel_rfl) (by simp) ?_
          refine AllReadyG.cons (o := ⟨some 181, .buildSlice 24 1 #[(0, .tmp 180)], 24, _, _, none⟩) rfl (fun K hK => ?_) AllReadyG.nil
          go_simp
          have hgL : (A2.alloc (.cells #[.bool false, .int .i64 H, .string X, .slice so s1 s2] 40)).heap[A2.heap.size]? = some (.cells (rc (false, H, X, so, s1, s2)) 40 (0, 0)) := heap_new _ _
          obtain ⟨A3, hU⟩ : ∃ V, V = World.alloc A2 (.cells #[.bool false, .int .i64 H, .string X, .slice so s1 s2] 40) := ⟨_, rfl⟩
          have kk : Kp [] A2 A3 := by rw [hU]; exact (Kp.refl _ _).alloc _
          rw [← hU] at hgL ⊢
          have KA3 : Hid (Kp [] w5 A3) := kt KA2.out kk
          have MM := MM.kept kk
          obtain ⟨gL, hgg⟩ : ∃ g, A2.heap.size = g := ⟨_, rfl⟩
          rw [hgg] at hgL ⊢
          clear hU hgg kk
          refine hK.out _ _ (CC.out _ KA3.out) (fun hHeld3 => ?_)
          clear hK K hHeld2
          try simp only [Act.put, pu1, pu2, pu3]
          refine wpAnyG_ready (rs := [11]) (by kernel_rfl) (by simp) ?_
          refine AllReadyG.cons (o := ⟨some 182, .call { callee := .builtin .append, args := #[.tmp 175, .tmp 181], argTypes := #[24, 24] }, 24, _, _, none⟩) rfl (fun K hK => ?_) AllReadyG.nil
          obtain ⟨a11, n11, c11, A4, run, MN, ⟨aa11, rfl⟩, hn, kk⟩ := MM.app ((lit_rs hgL).src) (fun h => by simp at h) (by have := HHL.out; have := HNT.out; have := HKL.out; omega)
          refine step_app2 (by rfl) _ _ 24 24 (by rfl) _ _ (by rfl) (by rfl) run ?_
          have KA4 : Hid (Kp [] w5 A4) := kt B0.out MN.2.1
          clear MM
          have MM := MN
          have HNY : Hid (n11 = n4 + 1) := hn
          clear run kk hn MN
          refine hK.out _ _ (CC.out _ KA4.out) (fun hHeld4 => ?_)
          clear hK K hHeld3
          try simp only [Act.put, pu1, pu2, pu3]
          refine wpAnyG_ready (rs := [15]) (by kernel_rfl) (by simp) ?_
          refine AllReadyG.cons (o := ⟨some 186, .call { callee := .builtin .append, args := #[.tmp 182, .tmp 185], argTypes := #[24, 24] }, 24, _, _, none⟩) rfl (fun K hK => ?_) AllReadyG.nil
          obtain ⟨a15, n15, c15, A5, run, MN, ⟨aa15, rfl⟩, hn, kk⟩ := MM.app (HSD.out _ KA4.out) (fun h => by simp at h) (by have := HHL.out; have := HNT.out; have := HNY.out; have := HKL.out; omega)
          refine step_app2 (by rfl) _ _ 24 24 (by rfl) _ _ (by rfl) (by rfl) run ?_
          have KA5 : Hid (Kp [] w5 A5) := kt B0.out MN.2.1
          clear MM
          have MM := MN
          have HND : Hid (n15 = n11 + (0)) := hn
          clear run kk hn MN
          refine hK.out _ _ (CC.out _ KA5.out) (fun hHeld5 => ?_)
          clear hK K hHeld4
          try simp only [Act.put, pu1, pu2, pu3]
          refine g_pure 16 (some 1) (.assign (.tmp 186)) ?_
          refine wpAnyG_free (by kernel_rfl) ?_
          refine wpAny_done (by kernel_rfl) ?_ _
          have HD := Hid.mk (HF.out _ _ _ _ (Ms.ahead B0.out MM))
          clear HF CC HST HSD KA0 KA1 KA2 KA3 KA4 KA5 MM B0 HNT HNY HND hl0 HKL hgL
          obtain ⟨rT, BT, lT, zT, oT, eT, bT⟩ := HD.out
          have HTl := tells_any w0 A5 q BT rT (zs.take (0) ++ (false, H, X, A) :: zs.drop (0)) (some aa15) n15 c15 7 H N I sa sn sc lT zT (by have := HHL.out; omega)
          obtain ⟨c0, c1, c2, c3, c4⟩ := HA.out _ eT
          have HFin : Hid (∀ V, Kp [] A5 V → Dn w0 q zs (.returned (.tuple #[.slice (some aa15) n15 c15, .bool true])) V) := fun V kV => ⟨_, _, _, rT, (zs.take (0) ++ (false, H, X, A) :: zs.drop (0)), BT, rfl, lT.kept kV, zT.kept kV, oT, kt (HK1.out _ eT) kV, bT⟩
          clear lT zT oT eT bT HA HK1 HD
          go_wp2_with fail
          refine HTl.mono ?_
          rintro e w8 ⟨rfl, k8⟩
          have HF8 := Hid.mk (HFin.out w8 k8)
          clear HTl HFin k8
          go_wp2
          go_ret2
          exact HF8.out
        refine AllReadyG.cons (o := ⟨some 181, .buildSlice 24 1 #[(0, .tmp 180)], 24, _, _, none⟩) rfl (fun K hK => ?_) AllReadyG.nil
        go_simp
        have hgL : (A1.alloc (.cells #[.bool false, .int .i64 H, .string X, .slice so s1 s2] 40)).heap[A1.heap.size]? = some (.cells (rc (false, H, X, so, s1, s2)) 40 (0, 0)) := heap_new _ _
        obtain ⟨A2, hU⟩ : ∃ V, V = World.alloc A1 (.cells #[.bool false, .int .i64 H, .string X, .slice so s1 s2] 40) := ⟨_, rfl⟩
        have kk : Kp [] A1 A2 := by rw [hU]; exact (Kp.refl _ _).alloc _
        rw [← hU] at hgL ⊢
        have KA2 : Hid (Kp [] w5 A2) := kt KA1.out kk
        have MM := MM.kept kk
        obtain ⟨gL, hgg⟩ : ∃ g, A1.heap.size = g := ⟨_, rfl⟩
        rw [hgg] at hgL ⊢
        have hne : gL ≠ g0 := by omega
        clear hU hgg kk
        refine hK.out _ _ (CC.out _ KA2.out) (fun hHeld2 => ?_)
        clear hK K hHeld1
        try simp only [Act.put, pu1, pu2, pu3]
        refine wpAnyG_ready (rs := [4]) (by kernel_rfl) (by simp) ?_
        refine AllReadyG.cons (o := ⟨some 175, .call { callee := .builtin .append, args := #[.tmp 171, .tmp 174], argTypes := #[24, 24] }, 24, _, _, none⟩) rfl (fun K hK => ?_) AllReadyG.nil
        obtain ⟨a4, n4, c4, A3, run, MN, ⟨aa4, rfl⟩, hn, kk⟩ := MM.app (HST.out _ KA2.out) (fun h => by simp at h) (by have := HHL.out; have := HKL.out; omega)
        refine step_app2 (by rfl) _ _ 24 24 (by rfl) _ _ (by rfl) (by rfl) run ?_
        have KA3 : Hid (Kp [] w5 A3) := kt B0.out MN.2.1
        clear MM
        have MM := MN
        have HNT : Hid (n4 = 0 + (0)) := hn
        have hgL := (kk.block _ (lt_of hgL) (by simp [blk]; exact hne)).trans hgL
        clear run kk hn MN
        refine hK.out _ _ (CC.out _ KA3.out) (fun hHeld3 => ?_)
        clear hK K hHeld2
        try simp only [Act.put, pu1, pu2, pu3]
        refine wpAnyG_ready (rs := [11]) (by kernel_rfl) (by simp) ?_
        refine AllReadyG.cons (o := ⟨some 182, .call { callee := .builtin .append, args := #[.tmp 175, .tmp 181], argTypes := #[24, 24] }, 24, _, _, none⟩) rfl (fun K hK => ?_) AllReadyG.nil
        obtain ⟨a11, n11, c11, A4, run, MN, ⟨aa11, rfl⟩, hn, kk⟩ := MM.app ((lit_rs hgL).src) (fun h => by simp at h) (by have := HHL.out; have := HNT.out; have := HKL.out; omega)
        refine step_app2 (by rfl) _ _ 24 24 (by rfl) _ _ (by rfl) (by rfl) run ?_
        have KA4 : Hid (Kp [] w5 A4) := kt B0.out MN.2.1
        clear MM
        have MM := MN
        have HNY : Hid (n11 = n4 + 1) := hn
        clear run kk hn MN
        refine hK.out _ _ (CC.out _ KA4.out) (fun hHeld4 => ?_)
        clear hK K hHeld3
        try simp only [Act.put, pu1, pu2, pu3]
        refine wpAnyG_ready (rs := [15]) (by kernel_rfl) (by simp) ?_
        refine AllReadyG.cons (o := ⟨some 186, .call { callee := .builtin .append, args := #[.tmp 182, .tmp 185], argTypes := #[24, 24] }, 24, _, _, none⟩) rfl (fun K hK => ?_) AllReadyG.nil
        obtain ⟨a15, n15, c15, A5, run, MN, ⟨aa15, rfl⟩, hn, kk⟩ := MM.app (HSD.out _ KA4.out) (fun h => by simp at h) (by have := HHL.out; have := HNT.out; have := HNY.out; have := HKL.out; omega)
        refine step_app2 (by rfl) _ _ 24 24 (by rfl) _ _ (by rfl) (by rfl) run ?_
        have KA5 : Hid (Kp [] w5 A5) := kt B0.out MN.2.1
        clear MM
        have MM := MN
        have HND : Hid (n15 = n11 + (0)) := hn
        clear run kk hn MN
        refine hK.out _ _ (CC.out _ KA5.out) (fun hHeld5 => ?_)
        clear hK K hHeld4
        try simp only [Act.put, pu1, pu2, pu3]
        refine g_pure 16 (some 1) (.assign (.tmp 186)) ?_
        refine wpAnyG_free (by kernel_rfl) ?_
        refine wpAny_done (by kernel_rfl) ?_ _
        have HD := Hid.mk (HF.out _ _ _ _ (Ms.ahead B0.out MM))
        clear HF CC HST HSD KA0 KA1 KA2 KA3 KA4 KA5 MM B0 HNT HNY HND hl0 HKL hgL hne
        obtain ⟨rT, BT, lT, zT, oT, eT, bT⟩ := HD.out
        have HTl := tells_any w0 A5 q BT rT (zs.take (0) ++ (false, H, X, A) :: zs.drop (0)) (some aa15) n15 c15 7 H N I sa sn sc lT zT (by have := HHL.out; omega)
        obtain ⟨c0, c1, c2, c3, c4⟩ := HA.out _ eT
        have HFin : Hid (∀ V, Kp [] A5 V → Dn w0 q zs (.returned (.tuple #[.slice (some aa15) n15 c15, .bool true])) V) := fun V kV => ⟨_, _, _, rT, (zs.take (0) ++ (false, H, X, A) :: zs.drop (0)), BT, rfl, lT.kept kV, zT.kept kV, oT, kt (HK1.out _ eT) kV, bT⟩
        clear lT zT oT eT bT HA HK1 HD
        go_wp2_with fail
        refine HTl.mono ?_
        rintro e w8 ⟨rfl, k8⟩
        have HF8 := Hid.mk (HFin.out w8 k8)
        clear HTl HFin k8
        go_wp2
        go_ret2
        exact HF8.out
      refine AllReadyG.cons (o := ⟨some 181, .buildSlice 24 1 #[(0, .tmp 180)], 24, _, _, none⟩) rfl (fun K hK => ?_) AllReadyG.nil
      go_simp
      have hgL : (A0.alloc (.cells #[.bool false, .int .i64 H, .string X, .slice so s1 s2] 40)).heap[A0.heap.size]? = some (.cells (rc (false, H, X, so, s1, s2)) 40 (0, 0)) := heap_new _ _
      obtain ⟨A1, hU⟩ : ∃ V, V = World.alloc A0 (.cells #[.bool false, .int .i64 H, .string X, .slice so s1 s2] 40) := ⟨_, rfl⟩
      have kk : Kp [] A0 A1 := by rw [hU]; exact (Kp.refl _ _).alloc _
      rw [← hU] at hgL ⊢
      have KA1 : Hid (Kp [] w5 A1) := kt KA0.out kk
      obtain ⟨gL, hgg⟩ : ∃ g, A0.heap.size = g := ⟨_, rfl⟩
      rw [hgg] at hgL ⊢
      clear hU hgg kk
      refine hK.out _ _ (CC.out _ KA1.out) (fun hHeld1 => ?_)
      clear hK K hHeld
      try simp only [Act.put, pu1, pu2, pu3]
      refine wpAnyG_ready (rs := [0]) (by kernel_rfl) (by simp) ?_
      refine AllReadyG.cons (o := ⟨some 171, .buildSlice 24 0 #[], 24, _, _, none⟩) rfl (fun K hK => ?_) AllReadyG.nil
      go_simp
      have MM := Ms.empty A1
      have hl0 : A1.heap.size < (A1.alloc (.cells #[] 40)).heap.size := lt_of (heap_new A1 (.cells #[] 40))
      obtain ⟨A2, hU⟩ : ∃ V, V = World.alloc A1 (.cells #[] 40) := ⟨_, rfl⟩
      rw [← hU] at MM hl0 ⊢
      have KA2 : Hid (Kp [] w5 A2) := kt KA1.out MM.2.1
      have B0 : Hid (Kp [] w5 A1) := KA1
      have hlL := lt_of hgL
      have hgL := (MM.2.1.block _ (lt_of hgL) (by simp)).trans hgL
      obtain ⟨g0, hg0⟩ : ∃ g, A1.heap.size = g := ⟨_, rfl⟩
      rw [hg0] at MM hl0 ⊢
      have hne : gL ≠ g0 := by omega
      clear hlL
      clear hU hg0
      refine hK.out _ _ (CC.out _ KA2.out) (fun hHeld2 => ?_)
      clear hK K hHeld1
      try simp only [Act.put, pu1, pu2, pu3]
      refine wpAnyG_ready (rs := [4]) (by kernel_rfl) (by simp) ?_
      refine AllReadyG.cons (o := ⟨some 175, .call { callee := .builtin .append, args := #[.tmp 171, .tmp 174], argTypes := #[24, 24] }, 24, _, _, none⟩) rfl (fun K hK => ?_) AllReadyG.nil
      obtain ⟨a4, n4, c4, A3, run, MN, ⟨aa4, rfl⟩, hn, kk⟩ := MM.app (HST.out _ KA2.out) (fun h => by simp at h) (by have := HHL.out; have := HKL.out; omega)
      refine step_app2 (by rfl) _ _ 24 24 (by rfl) _ _ (by rfl) (by rfl) run ?_
      have KA3 : Hid (Kp [] w5 A3) := kt B0.out MN.2.1
      clear MM
      have MM := MN
      have HNT : Hid (n4 = 0 + (0)) := hn
      have hgL := (kk.block _ (lt_of hgL) (by simp [blk]; exact hne)).trans hgL
      clear run kk hn MN
      refine hK.out _ _ (CC.out _ KA3.out) (fun hHeld3 => ?_)
      clear hK K hHeld2
      try simp only [Act.put, pu1, pu2, pu3]
      refine wpAnyG_ready (rs := [11]) (by kernel_rfl) (by simp) ?_
      refine AllReadyG.cons (o := ⟨some 182, .call { callee := .builtin .append, args := #[.tmp 175, .tmp 181], argTypes := #[24, 24] }, 24, _, _, none⟩) rfl (fun K hK => ?_) AllReadyG.nil
      obtain ⟨a11, n11, c11, A4, run, MN, ⟨aa11, rfl⟩, hn, kk⟩ := MM.app ((lit_rs hgL).src) (fun h => by simp at h) (by have := HHL.out; have := HNT.out; have := HKL.out; omega)
      refine step_app2 (by rfl) _ _ 24 24 (by rfl) _ _ (by rfl) (by rfl) run ?_
      have KA4 : Hid (Kp [] w5 A4) := kt B0.out MN.2.1
      clear MM
      have MM := MN
      have HNY : Hid (n11 = n4 + 1) := hn
      clear run kk hn MN
      refine hK.out _ _ (CC.out _ KA4.out) (fun hHeld4 => ?_)
      clear hK K hHeld3
      try simp only [Act.put, pu1, pu2, pu3]
      refine wpAnyG_ready (rs := [15]) (by kernel_rfl) (by simp) ?_
      refine AllReadyG.cons (o := ⟨some 186, .call { callee := .builtin .append, args := #[.tmp 182, .tmp 185], argTypes := #[24, 24] }, 24, _, _, none⟩) rfl (fun K hK => ?_) AllReadyG.nil
      obtain ⟨a15, n15, c15, A5, run, MN, ⟨aa15, rfl⟩, hn, kk⟩ := MM.app (HSD.out _ KA4.out) (fun h => by simp at h) (by have := HHL.out; have := HNT.out; have := HNY.out; have := HKL.out; omega)
      refine step_app2 (by rfl) _ _ 24 24 (by rfl) _ _ (by rfl) (by rfl) run ?_
      have KA5 : Hid (Kp [] w5 A5) := kt B0.out MN.2.1
      clear MM
      have MM := MN
      have HND : Hid (n15 = n11 + (0)) := hn
      clear run kk hn MN
      refine hK.out _ _ (CC.out _ KA5.out) (fun hHeld5 => ?_)
      clear hK K hHeld4
      try simp only [Act.put, pu1, pu2, pu3]
      refine g_pure 16 (some 1) (.assign (.tmp 186)) ?_
      refine wpAnyG_free (by kernel_rfl) ?_
      refine wpAny_done (by kernel_rfl) ?_ _
      have HD := Hid.mk (HF.out _ _ _ _ (Ms.ahead B0.out MM))
      clear HF CC HST HSD KA0 KA1 KA2 KA3 KA4 KA5 MM B0 HNT HNY HND hl0 HKL hgL hne
      obtain ⟨rT, BT, lT, zT, oT, eT, bT⟩ := HD.out
      have HTl := tells_any w0 A5 q BT rT (zs.take (0) ++ (false, H, X, A) :: zs.drop (0)) (some aa15) n15 c15 7 H N I sa sn sc lT zT (by have := HHL.out; omega)
      obtain ⟨c0, c1, c2, c3, c4⟩ := HA.out _ eT
      have HFin : Hid (∀ V, Kp [] A5 V → Dn w0 q zs (.returned (.tuple #[.slice (some aa15) n15 c15, .bool true])) V) := fun V kV => ⟨_, _, _, rT, (zs.take (0) ++ (false, H, X, A) :: zs.drop (0)), BT, rfl, lT.kept kV, zT.kept kV, oT, kt (HK1.out _ eT) kV, bT⟩
      clear lT zT oT eT bT HA HK1 HD
      go_wp2_with fail
      refine HTl.mono ?_
      rintro e w8 ⟨rfl, k8⟩
      have HF8 := Hid.mk (HFin.out w8 k8)
      clear HTl HFin k8
      go_wp2
      go_ret2
      exact HF8.out
    · have q0 : decide (I < 0) = false := decide_eq_false (by omega)
      have q8 : decide (0 < I) = true := decide_eq_true hI
      have hcl : clp zs.length I = 0 := by unfold clp; omega
      have HF : Hid (∀ W ao n' c', Ms w5 W ao n' c' ([] ++ rl.take (0) ++ [((false, H, X, so, s1, s2) : Raw)] ++ rl.drop (0)) → Dt w0 w1 q B (zs.length + 1) W (zs.take (0) ++ (false, H, X, A) :: zs.drop (0)) ao n' c') := fun W ao n' c' M => Dt.made (by
        have h9 := l5
        unfold ins at h9
        rw [hcl] at h9
        exact h9) ⟨_, M, by
        have h1 := (((z5.sm.kept M.2.1).take (0)).append' (Sms.one (s5.kept M.2.1))).append' ((z5.sm.kept M.2.1).drop (0))
        simpa using h1⟩ M.2.1 e5 (by first | (simp; omega) | simp)
      
      have HST : Hid (∀ W, Kp [] w5 W → Src Try.prog 4 24 (.slice none 0 0) (0) (cz (rl.take (0))) W) := fun W kW => by
        rw [List.take_zero]
        exact Src.ofNil W Try.underlying24 0
      have HSD : Hid (∀ W, Kp [] w5 W → Src Try.prog 4 24 (.slice none 0 0) (0) (cz (rl.drop (0))) W) := fun W kW => by
        rw [hrl]
        exact Src.ofNil W Try.underlying24 0
      have HKL : Hid ((0 : Nat) ≤ zs.length) := by have := hcap; have h9 := clp_le zs.length I; rw [hcl] at h9; exact h9
      clear hcl l5 e5 z5 s5
      go_upto_region 40 with fail
      obtain ⟨A0, hA0⟩ : ∃ V, V = w5.drew := ⟨_, rfl⟩
      have KA0 : Hid (Kp [] w5 A0) := by rw [hA0]; exact (Kp.refl _ _).drew
      refine wp_region_g (S := fun V => V.cell? ⟨ga, 1, none⟩ = some (.int .i64 H)) (T := []) (by kernel_rfl) (CC.out _ (Kp.refl [] w5).drew) (fun hHeld => ?_)
      rw [← hA0] at hHeld ⊢
      clear hA0
      refine g_pure 1 (some 172) (.move (.tmp 1)) ?_
      refine g_pure 2 (some 173) (.move (.tmp 16)) ?_
      refine g_pure 3 (some 174) (.slice 24 (.tmp 172) none (some (.tmp 173)) none) ?_
      refine g_pure 5 (some 176) (.fieldAddr 29 (.tmp 5) 1) ?_
      refine g_take 6 (some 177) (.load 3 (.tmp 176)) (by intro w hSw; (have u0 := hSw); go_simp; try with_reducible rfl) ?_
      refine g_pure 7 (some 178) (.move (.tmp 8)) ?_
      refine g_pure 8 (some 179) (.move (.tmp 9)) ?_
      refine g_pure 9 (some 180) (.build 40 #[(1, .tmp 177), (2, .tmp 178), (3, .tmp 179)]) ?_
      refine g_pure 12 (some 183) (.move (.tmp 1)) ?_
      refine g_pure 13 (some 184) (.move (.tmp 16)) ?_
      refine g_pure 14 (some 185) (.slice 24 (.tmp 183) (some (.tmp 184)) none none) ?_
      refine wpAnyG_ready (rs := [0, 10]) (by kernel_rfl) (by simp) ?_
      refine AllReadyG.cons (o := ⟨some 171, .buildSlice 24 0 #[], 24, _, _, none⟩) rfl (fun K hK => ?_) ?_
      · go_simp
        have MM := Ms.empty A0
        have hl0 : A0.heap.size < (A0.alloc (.cells #[] 40)).heap.size := lt_of (heap_new A0 (.cells #[] 40))
        obtain ⟨A1, hU⟩ : ∃ V, V = World.alloc A0 (.cells #[] 40) := ⟨_, rfl⟩
        rw [← hU] at MM hl0 ⊢
        have KA1 : Hid (Kp [] w5 A1) := kt KA0.out MM.2.1
        have B0 : Hid (Kp [] w5 A0) := KA0
        obtain ⟨g0, hg0⟩ : ∃ g, A0.heap.size = g := ⟨_, rfl⟩
        rw [hg0] at MM hl0 ⊢
        clear hU hg0
        refine hK.out _ _ (CC.out _ KA1.out) (fun hHeld1 => ?_)
        clear hK K hHeld
        try simp only [Act.put, pu1, pu2, pu3]
        refine wpAnyG_ready (rs := [4, 10]) (by kernel_rfl) (by simp) ?_
        refine AllReadyG.cons (o := ⟨some 175, .call { callee := .builtin .append, args := #[.tmp 171, .tmp 174], argTypes := #[24, 24] }, 24, _, _, none⟩) rfl (fun K hK => ?_) ?_
        · obtain ⟨a4, n4, c4, A2, run, MN, ⟨aa4, rfl⟩, hn, kk⟩ := MM.app (HST.out _ KA1.out) (fun h => by simp at h) (by have := HHL.out; have := HKL.out; omega)
          refine step_app2 (by rfl) _ _ 24 24 (by rfl) _ _ (by rfl) (by rfl) run ?_
          have KA2 : Hid (Kp [] w5 A2) := kt B0.out MN.2.1
          clear MM
          have MM := MN
          have HNT : Hid (n4 = 0 + (0)) := hn
          clear run kk hn MN
          refine hK.out _ _ (CC.out _ KA2.out) (fun hHeld2 => ?_)
          clear hK K hHeld1
          try simp only [Act.put, pu1, pu2, pu3]
          refine wpAnyG_ready (rs := [10]) (by kernel_rfl) (by simp) ?_
          refine AllReadyG.cons (o := ⟨some 181, .buildSlice 24 1 #[(0, .tmp 180)], 24, _, _, none⟩) rfl (fun K hK => ?_) AllReadyG.nil
          go_simp
          have hgL : (A2.alloc (.cells #[.bool false, .int .i64 H, .string X, .slice so s1 s2] 40)).heap[A2.heap.size]? = some (.cells (rc (false, H, X, so, s1, s2)) 40 (0, 0)) := heap_new _ _
          obtain ⟨A3, hU⟩ : ∃ V, V = World.alloc A2 (.cells #[.bool false, .int .i64 H, .string X, .slice so s1 s2] 40) := ⟨_, rfl⟩
          have kk : Kp [] A2 A3 := by rw [hU]; exact (Kp.refl _ _).alloc _
          rw [← hU] at hgL ⊢
          have KA3 : Hid (Kp [] w5 A3) := kt KA2.out kk
          have MM := MM.kept kk
          obtain ⟨gL, hgg⟩ : ∃ g, A2.heap.size = g := ⟨_, rfl⟩
          rw [hgg] at hgL ⊢
          clear hU hgg kk
          refine hK.out _ _ (CC.out _ KA3.out) (fun hHeld3 => ?_)
          clear hK K hHeld2
          try simp only [Act.put, pu1, pu2, pu3]
          refine wpAnyG_ready (rs := [11]) (by kernel_rfl) (by simp) ?_
          refine AllReadyG.cons (o := ⟨some 182, .call { callee := .builtin .append, args := #[.tmp 175, .tmp 181], argTypes := #[24, 24] }, 24, _, _, none⟩) rfl (fun K hK => ?_) AllReadyG.nil
          obtain ⟨a11, n11, c11, A4, run, MN, ⟨aa11, rfl⟩, hn, kk⟩ := MM.app ((lit_rs hgL).src) (fun h => by simp at h) (by have := HHL.out; have := HNT.out; have := HKL.out; omega)
          refine step_app2 (by rfl) _ _ 24 24 (by rfl) _ _ (by rfl) (by rfl) run ?_
          have KA4 : Hid (Kp [] w5 A4) := kt B0.out MN.2.1
          clear MM
          have MM := MN
          have HNY : Hid (n11 = n4 + 1) := hn
          clear run kk hn MN
          refine hK.out _ _ (CC.out _ KA4.out) (fun hHeld4 => ?_)
          clear hK K hHeld3
          try simp only [Act.put, pu1, pu2, pu3]
          refine wpAnyG_ready (rs := [15]) (by kernel_rfl) (by simp) ?_
          refine AllReadyG.cons (o := ⟨some 186, .call { callee := .builtin .append, args := #[.tmp 182, .tmp 185], argTypes := #[24, 24] }, 24, _, _, none⟩) rfl (fun K hK => ?_) AllReadyG.nil
          obtain ⟨a15, n15, c15, A5, run, MN, ⟨aa15, rfl⟩, hn, kk⟩ := MM.app (HSD.out _ KA4.out) (fun h => by simp at h) (by have := HHL.out; have := HNT.out; have := HNY.out; have := HKL.out; omega)
          refine step_app2 (by rfl) _ _ 24 24 (by rfl) _ _ (by rfl) (by rfl) run ?_
          have KA5 : Hid (Kp [] w5 A5) := kt B0.out MN.2.1
          clear MM
          have MM := MN
          have HND : Hid (n15 = n11 + (0)) := hn
          clear run kk hn MN
          refine hK.out _ _ (CC.out _ KA5.out) (fun hHeld5 => ?_)
          clear hK K hHeld4
          try simp only [Act.put, pu1, pu2, pu3]
          refine g_pure 16 (some 1) (.assign (.tmp 186)) ?_
          refine wpAnyG_free (by kernel_rfl) ?_
          refine wpAny_done (by kernel_rfl) ?_ _
          have HD := Hid.mk (HF.out _ _ _ _ (Ms.ahead B0.out MM))
          clear HF CC HST HSD KA0 KA1 KA2 KA3 KA4 KA5 MM B0 HNT HNY HND hl0 HKL hgL
          obtain ⟨rT, BT, lT, zT, oT, eT, bT⟩ := HD.out
          have HTl := tells_any w0 A5 q BT rT (zs.take (0) ++ (false, H, X, A) :: zs.drop (0)) (some aa15) n15 c15 7 H N I sa sn sc lT zT (by have := HHL.out; omega)
          obtain ⟨c0, c1, c2, c3, c4⟩ := HA.out _ eT
          have HFin : Hid (∀ V, Kp [] A5 V → Dn w0 q zs (.returned (.tuple #[.slice (some aa15) n15 c15, .bool true])) V) := fun V kV => ⟨_, _, _, rT, (zs.take (0) ++ (false, H, X, A) :: zs.drop (0)), BT, rfl, lT.kept kV, zT.kept kV, oT, kt (HK1.out _ eT) kV, bT⟩
          clear lT zT oT eT bT HA HK1 HD
          go_wp2_with fail
          refine HTl.mono ?_
          rintro e w8 ⟨rfl, k8⟩
          have HF8 := Hid.mk (HFin.out w8 k8)
          clear HTl HFin k8
          go_wp2
          go_ret2
          exact HF8.out
        refine AllReadyG.cons (o := ⟨some 181, .buildSlice 24 1 #[(0, .tmp 180)], 24, _, _, none⟩) rfl (fun K hK => ?_) AllReadyG.nil
        go_simp
        have hgL : (A1.alloc (.cells #[.bool false, .int .i64 H, .string X, .slice so s1 s2] 40)).heap[A1.heap.size]? = some (.cells (rc (false, H, X, so, s1, s2)) 40 (0, 0)) := heap_new _ _
        obtain ⟨A2, hU⟩ : ∃ V, V = World.alloc A1 (.cells #[.bool false, .int .i64 H, .string X, .slice so s1 s2] 40) := ⟨_, rfl⟩
        have kk : Kp [] A1 A2 := by rw [hU]; exact (Kp.refl _ _).alloc _
        rw [← hU] at hgL ⊢
        have KA2 : Hid (Kp [] w5 A2) := kt KA1.out kk
        have MM := MM.kept kk
        obtain ⟨gL, hgg⟩ : ∃ g, A1.heap.size = g := ⟨_, rfl⟩
        rw [hgg] at hgL ⊢
        have hne : gL ≠ g0 := by omega
        clear hU hgg kk
        refine hK.out _ _ (CC.out _ KA2.out) (fun hHeld2 => ?_)
        clear hK K hHeld1
        try simp only [Act.put, pu1, pu2, pu3]
        refine wpAnyG_ready (rs := [4]) (by kernel_rfl) (by simp) ?_
        refine AllReadyG.cons (o := ⟨some 175, .call { callee := .builtin .append, args := #[.tmp 171, .tmp 174], argTypes := #[24, 24] }, 24, _, _, none⟩) rfl (fun K hK => ?_) AllReadyG.nil
        obtain ⟨a4, n4, c4, A3, run, MN, ⟨aa4, rfl⟩, hn, kk⟩ := MM.app (HST.out _ KA2.out) (fun h => by simp at h) (by have := HHL.out; have := HKL.out; omega)
        refine step_app2 (by rfl) _ _ 24 24 (by rfl) _ _ (by rfl) (by rfl) run ?_
        have KA3 : Hid (Kp [] w5 A3) := kt B0.out MN.2.1
        clear MM
        have MM := MN
        have HNT : Hid (n4 = 0 + (0)) := hn
        have hgL := (kk.block _ (lt_of hgL) (by simp [blk]; exact hne)).trans hgL
        clear run kk hn MN
        refine hK.out _ _ (CC.out _ KA3.out) (fun hHeld3 => ?_)
        clear hK K hHeld2
        try simp only [Act.put, pu1, pu2, pu3]
        refine wpAnyG_ready (rs := [11]) (by kernel_rfl) (by simp) ?_
        refine AllReadyG.cons (o := ⟨some 182, .call { callee := .builtin .append, args := #[.tmp 175, .tmp 181], argTypes := #[24, 24] }, 24, _, _, none⟩) rfl (fun K hK => ?_) AllReadyG.nil
        obtain ⟨a11, n11, c11, A4, run, MN, ⟨aa11, rfl⟩, hn, kk⟩ := MM.app ((lit_rs hgL).src) (fun h => by simp at h) (by have := HHL.out; have := HNT.out; have := HKL.out; omega)
        refine step_app2 (by rfl) _ _ 24 24 (by rfl) _ _ (by rfl) (by rfl) run ?_
        have KA4 : Hid (Kp [] w5 A4) := kt B0.out MN.2.1
        clear MM
        have MM := MN
        have HNY : Hid (n11 = n4 + 1) := hn
        clear run kk hn MN
        refine hK.out _ _ (CC.out _ KA4.out) (fun hHeld4 => ?_)
        clear hK K hHeld3
        try simp only [Act.put, pu1, pu2, pu3]
        refine wpAnyG_ready (rs := [15]) (by kernel_rfl) (by simp) ?_
        refine AllReadyG.cons (o := ⟨some 186, .call { callee := .builtin .append, args := #[.tmp 182, .tmp 185], argTypes := #[24, 24] }, 24, _, _, none⟩) rfl (fun K hK => ?_) AllReadyG.nil
        obtain ⟨a15, n15, c15, A5, run, MN, ⟨aa15, rfl⟩, hn, kk⟩ := MM.app (HSD.out _ KA4.out) (fun h => by simp at h) (by have := HHL.out; have := HNT.out; have := HNY.out; have := HKL.out; omega)
        refine step_app2 (by rfl) _ _ 24 24 (by rfl) _ _ (by rfl) (by rfl) run ?_
        have KA5 : Hid (Kp [] w5 A5) := kt B0.out MN.2.1
        clear MM
        have MM := MN
        have HND : Hid (n15 = n11 + (0)) := hn
        clear run kk hn MN
        refine hK.out _ _ (CC.out _ KA5.out) (fun hHeld5 => ?_)
        clear hK K hHeld4
        try simp only [Act.put, pu1, pu2, pu3]
        refine g_pure 16 (some 1) (.assign (.tmp 186)) ?_
        refine wpAnyG_free (by kernel_rfl) ?_
        refine wpAny_done (by kernel_rfl) ?_ _
        have HD := Hid.mk (HF.out _ _ _ _ (Ms.ahead B0.out MM))
        clear HF CC HST HSD KA0 KA1 KA2 KA3 KA4 KA5 MM B0 HNT HNY HND hl0 HKL hgL hne
        obtain ⟨rT, BT, lT, zT, oT, eT, bT⟩ := HD.out
        have HTl := tells_any w0 A5 q BT rT (zs.take (0) ++ (false, H, X, A) :: zs.drop (0)) (some aa15) n15 c15 7 H N I sa sn sc lT zT (by have := HHL.out; omega)
        obtain ⟨c0, c1, c2, c3, c4⟩ := HA.out _ eT
        have HFin : Hid (∀ V, Kp [] A5 V → Dn w0 q zs (.returned (.tuple #[.slice (some aa15) n15 c15, .bool true])) V) := fun V kV => ⟨_, _, _, rT, (zs.take (0) ++ (false, H, X, A) :: zs.drop (0)), BT, rfl, lT.kept kV, zT.kept kV, oT, kt (HK1.out _ eT) kV, bT⟩
        clear lT zT oT eT bT HA HK1 HD
        go_wp2_with fail
        refine HTl.mono ?_
        rintro e w8 ⟨rfl, k8⟩
        have HF8 := Hid.mk (HFin.out w8 k8)
        clear HTl HFin k8
        go_wp2
        go_ret2
        exact HF8.out
      refine AllReadyG.cons (o := ⟨some 181, .buildSlice 24 1 #[(0, .tmp 180)], 24, _, _, none⟩) rfl (fun K hK => ?_) AllReadyG.nil
      go_simp
      have hgL : (A0.alloc (.cells #[.bool false, .int .i64 H, .string X, .slice so s1 s2] 40)).heap[A0.heap.size]? = some (.cells (rc (false, H, X, so, s1, s2)) 40 (0, 0)) := heap_new _ _
      obtain ⟨A1, hU⟩ : ∃ V, V = World.alloc A0 (.cells #[.bool false, .int .i64 H, .string X, .slice so s1 s2] 40) := ⟨_, rfl⟩
      have kk : Kp [] A0 A1 := by rw [hU]; exact (Kp.refl _ _).alloc _
      rw [← hU] at hgL ⊢
      have KA1 : Hid (Kp [] w5 A1) := kt KA0.out kk
      obtain ⟨gL, hgg⟩ : ∃ g, A0.heap.size = g := ⟨_, rfl⟩
      rw [hgg] at hgL ⊢
      clear hU hgg kk
      refine hK.out _ _ (CC.out _ KA1.out) (fun hHeld1 => ?_)
      clear hK K hHeld
      try simp only [Act.put, pu1, pu2, pu3]
      refine wpAnyG_ready (rs := [0]) (by kernel_rfl) (by simp) ?_
      refine AllReadyG.cons (o := ⟨some 171, .buildSlice 24 0 #[], 24, _, _, none⟩) rfl (fun K hK => ?_) AllReadyG.nil
      go_simp
      have MM := Ms.empty A1
      have hl0 : A1.heap.size < (A1.alloc (.cells #[] 40)).heap.size := lt_of (heap_new A1 (.cells #[] 40))
      obtain ⟨A2, hU⟩ : ∃ V, V = World.alloc A1 (.cells #[] 40) := ⟨_, rfl⟩
      rw [← hU] at MM hl0 ⊢
      have KA2 : Hid (Kp [] w5 A2) := kt KA1.out MM.2.1
      have B0 : Hid (Kp [] w5 A1) := KA1
      have hlL := lt_of hgL
      have hgL := (MM.2.1.block _ (lt_of hgL) (by simp)).trans hgL
      obtain ⟨g0, hg0⟩ : ∃ g, A1.heap.size = g := ⟨_, rfl⟩
      rw [hg0] at MM hl0 ⊢
      have hne : gL ≠ g0 := by omega
      clear hlL
      clear hU hg0
      refine hK.out _ _ (CC.out _ KA2.out) (fun hHeld2 => ?_)
      clear hK K hHeld1
      try simp only [Act.put, pu1, pu2, pu3]
      refine wpAnyG_ready (rs := [4]) (by kernel_rfl) (by simp) ?_
      refine AllReadyG.cons (o := ⟨some 175, .call { callee := .builtin .append, args := #[.tmp 171, .tmp 174], argTypes := #[24, 24] }, 24, _, _, none⟩) rfl (fun K hK => ?_) AllReadyG.nil
      obtain ⟨a4, n4, c4, A3, run, MN, ⟨aa4, rfl⟩, hn, kk⟩ := MM.app (HST.out _ KA2.out) (fun h => by simp at h) (by have := HHL.out; have := HKL.out; omega)
      refine step_app2 (by rfl) _ _ 24 24 (by rfl) _ _ (by rfl) (by rfl) run ?_
      have KA3 : Hid (Kp [] w5 A3) := kt B0.out MN.2.1
      clear MM
      have MM := MN
      have HNT : Hid (n4 = 0 + (0)) := hn
      have hgL := (kk.block _ (lt_of hgL) (by simp [blk]; exact hne)).trans hgL
      clear run kk hn MN
      refine hK.out _ _ (CC.out _ KA3.out) (fun hHeld3 => ?_)
      clear hK K hHeld2
      try simp only [Act.put, pu1, pu2, pu3]
      refine wpAnyG_ready (rs := [11]) (by kernel_rfl) (by simp) ?_
      refine AllReadyG.cons (o := ⟨some 182, .call { callee := .builtin .append, args := #[.tmp 175, .tmp 181], argTypes := #[24, 24] }, 24, _, _, none⟩) rfl (fun K hK => ?_) AllReadyG.nil
      obtain ⟨a11, n11, c11, A4, run, MN, ⟨aa11, rfl⟩, hn, kk⟩ := MM.app ((lit_rs hgL).src) (fun h => by simp at h) (by have := HHL.out; have := HNT.out; have := HKL.out; omega)
      refine step_app2 (by rfl) _ _ 24 24 (by rfl) _ _ (by rfl) (by rfl) run ?_
      have KA4 : Hid (Kp [] w5 A4) := kt B0.out MN.2.1
      clear MM
      have MM := MN
      have HNY : Hid (n11 = n4 + 1) := hn
      clear run kk hn MN
      refine hK.out _ _ (CC.out _ KA4.out) (fun hHeld4 => ?_)
      clear hK K hHeld3
      try simp only [Act.put, pu1, pu2, pu3]
      refine wpAnyG_ready (rs := [15]) (by kernel_rfl) (by simp) ?_
      refine AllReadyG.cons (o := ⟨some 186, .call { callee := .builtin .append, args := #[.tmp 182, .tmp 185], argTypes := #[24, 24] }, 24, _, _, none⟩) rfl (fun K hK => ?_) AllReadyG.nil
      obtain ⟨a15, n15, c15, A5, run, MN, ⟨aa15, rfl⟩, hn, kk⟩ := MM.app (HSD.out _ KA4.out) (fun h => by simp at h) (by have := HHL.out; have := HNT.out; have := HNY.out; have := HKL.out; omega)
      refine step_app2 (by rfl) _ _ 24 24 (by rfl) _ _ (by rfl) (by rfl) run ?_
      have KA5 : Hid (Kp [] w5 A5) := kt B0.out MN.2.1
      clear MM
      have MM := MN
      have HND : Hid (n15 = n11 + (0)) := hn
      clear run kk hn MN
      refine hK.out _ _ (CC.out _ KA5.out) (fun hHeld5 => ?_)
      clear hK K hHeld4
      try simp only [Act.put, pu1, pu2, pu3]
      refine g_pure 16 (some 1) (.assign (.tmp 186)) ?_
      refine wpAnyG_free (by kernel_rfl) ?_
      refine wpAny_done (by kernel_rfl) ?_ _
      have HD := Hid.mk (HF.out _ _ _ _ (Ms.ahead B0.out MM))
      clear HF CC HST HSD KA0 KA1 KA2 KA3 KA4 KA5 MM B0 HNT HNY HND hl0 HKL hgL hne
      obtain ⟨rT, BT, lT, zT, oT, eT, bT⟩ := HD.out
      have HTl := tells_any w0 A5 q BT rT (zs.take (0) ++ (false, H, X, A) :: zs.drop (0)) (some aa15) n15 c15 7 H N I sa sn sc lT zT (by have := HHL.out; omega)
      obtain ⟨c0, c1, c2, c3, c4⟩ := HA.out _ eT
      have HFin : Hid (∀ V, Kp [] A5 V → Dn w0 q zs (.returned (.tuple #[.slice (some aa15) n15 c15, .bool true])) V) := fun V kV => ⟨_, _, _, rT, (zs.take (0) ++ (false, H, X, A) :: zs.drop (0)), BT, rfl, lT.kept kV, zT.kept kV, oT, kt (HK1.out _ eT) kV, bT⟩
      clear lT zT oT eT bT HA HK1 HD
      go_wp2_with fail
      refine HTl.mono ?_
      rintro e w8 ⟨rfl, k8⟩
      have HF8 := Hid.mk (HFin.out w8 k8)
      clear HTl HFin k8
      go_wp2
      go_ret2
      exact HF8.out
    · subst hI
      have hcl : clp zs.length 0 = 0 := by unfold clp; omega
      have HF : Hid (∀ W ao n' c', Ms w5 W ao n' c' ([] ++ rl.take (0) ++ [((false, H, X, so, s1, s2) : Raw)] ++ rl.drop (0)) → Dt w0 w1 q B (zs.length + 1) W (zs.take (0) ++ (false, H, X, A) :: zs.drop (0)) ao n' c') := fun W ao n' c' M => Dt.made (by
        have h9 := l5
        unfold ins at h9
        rw [hcl] at h9
        exact h9) ⟨_, M, by
        have h1 := (((z5.sm.kept M.2.1).take (0)).append' (Sms.one (s5.kept M.2.1))).append' ((z5.sm.kept M.2.1).drop (0))
        simpa using h1⟩ M.2.1 e5 (by first | (simp; omega) | simp)
      
      have HST : Hid (∀ W, Kp [] w5 W → Src Try.prog 4 24 (.slice none 0 0) (0) (cz (rl.take (0))) W) := fun W kW => by
        rw [List.take_zero]
        exact Src.ofNil W Try.underlying24 0
      have HSD : Hid (∀ W, Kp [] w5 W → Src Try.prog 4 24 (.slice none 0 0) (0) (cz (rl.drop (0))) W) := fun W kW => by
        rw [hrl]
        exact Src.ofNil W Try.underlying24 0
      have HKL : Hid ((0 : Nat) ≤ zs.length) := by have := hcap; have h9 := clp_le zs.length 0; rw [hcl] at h9; exact h9
      clear hcl l5 e5 z5 s5
      go_upto_region 40 with fail
      obtain ⟨A0, hA0⟩ : ∃ V, V = w5.drew := ⟨_, rfl⟩
      have KA0 : Hid (Kp [] w5 A0) := by rw [hA0]; exact (Kp.refl _ _).drew
      refine wp_region_g (S := fun V => V.cell? ⟨ga, 1, none⟩ = some (.int .i64 H)) (T := []) (by kernel_rfl) (CC.out _ (Kp.refl [] w5).drew) (fun hHeld => ?_)
      rw [← hA0] at hHeld ⊢
      clear hA0
      refine g_pure 1 (some 172) (.move (.tmp 1)) ?_
      refine g_pure 2 (some 173) (.move (.tmp 16)) ?_
      refine g_pure 3 (some 174) (.slice 24 (.tmp 172) none (some (.tmp 173)) none) ?_
      refine g_pure 5 (some 176) (.fieldAddr 29 (.tmp 5) 1) ?_
      refine g_take 6 (some 177) (.load 3 (.tmp 176)) (by intro w hSw; (have u0 := hSw); go_simp; try with_reducible rfl) ?_
      refine g_pure 7 (some 178) (.move (.tmp 8)) ?_
      refine g_pure 8 (some 179) (.move (.tmp 9)) ?_
      refine g_pure 9 (some 180) (.build 40 #[(1, .tmp 177), (2, .tmp 178), (3, .tmp 179)]) ?_
      refine g_pure 12 (some 183) (.move (.tmp 1)) ?_
      refine g_pure 13 (some 184) (.move (.tmp 16)) ?_
      refine g_pure 14 (some 185) (.slice 24 (.tmp 183) (some (.tmp 184)) none none) ?_
      refine wpAnyG_ready (rs := [0, 10]) (by kernel_rfl) (by simp) ?_
      refine AllReadyG.cons (o := ⟨some 171, .buildSlice 24 0 #[], 24, _, _, none⟩) rfl (fun K hK => ?_) ?_
      · go_simp
        have MM := Ms.empty A0
        have hl0 : A0.heap.size < (A0.alloc (.cells #[] 40)).heap.size := lt_of (heap_new A0 (.cells #[] 40))
        obtain ⟨A1, hU⟩ : ∃ V, V = World.alloc A0 (.cells #[] 40) := ⟨_, rfl⟩
        rw [← hU] at MM hl0 ⊢
        have KA1 : Hid (Kp [] w5 A1) := kt KA0.out MM.2.1
        have B0 : Hid (Kp [] w5 A0) := KA0
        obtain ⟨g0, hg0⟩ : ∃ g, A0.heap.size = g := ⟨_, rfl⟩
        rw [hg0] at MM hl0 ⊢
        clear hU hg0
        refine hK.out _ _ (CC.out _ KA1.out) (fun hHeld1 => ?_)
        clear hK K hHeld
        try simp only [Act.put, pu1, pu2, pu3]
        refine wpAnyG_ready (rs := [4, 10]) (by kernel_rfl) (by simp) ?_
        refine AllReadyG.cons (o := ⟨some 175, .call { callee := .builtin .append, args := #[.tmp 171, .tmp 174], argTypes := #[24, 24] }, 24, _, _, none⟩) rfl (fun K hK => ?_) ?_
        · obtain ⟨a4, n4, c4, A2, run, MN, ⟨aa4, rfl⟩, hn, kk⟩ := MM.app (HST.out _ KA1.out) (fun h => by simp at h) (by have := HHL.out; have := HKL.out; omega)
          refine step_app2 (by rfl) _ _ 24 24 (by rfl) _ _ (by rfl) (by rfl) run ?_
          have KA2 : Hid (Kp [] w5 A2) := kt B0.out MN.2.1
          clear MM
          have MM := MN
          have HNT : Hid (n4 = 0 + (0)) := hn
          clear run kk hn MN
          refine hK.out _ _ (CC.out _ KA2.out) (fun hHeld2 => ?_)
          clear hK K hHeld1
          try simp only [Act.put, pu1, pu2, pu3]
          refine wpAnyG_ready (rs := [10]) (by kernel_rfl) (by simp) ?_
          refine AllReadyG.cons (o := ⟨some 181, .buildSlice 24 1 #[(0, .tmp 180)], 24, _, _, none⟩) rfl (fun K hK => ?_) AllReadyG.nil
          go_simp
          have hgL : (A2.alloc (.cells #[.bool false, .int .i64 H, .string X, .slice so s1 s2] 40)).heap[A2.heap.size]? = some (.cells (rc (false, H, X, so, s1, s2)) 40 (0, 0)) := heap_new _ _
          obtain ⟨A3, hU⟩ : ∃ V, V = World.alloc A2 (.cells #[.bool false, .int .i64 H, .string X, .slice so s1 s2] 40) := ⟨_, rfl⟩
          have kk : Kp [] A2 A3 := by rw [hU]; exact (Kp.refl _ _).alloc _
          rw [← hU] at hgL ⊢
          have KA3 : Hid (Kp [] w5 A3) := kt KA2.out kk
          have MM := MM.kept kk
          obtain ⟨gL, hgg⟩ : ∃ g, A2.heap.size = g := ⟨_, rfl⟩
          rw [hgg] at hgL ⊢
          clear hU hgg kk
          refine hK.out _ _ (CC.out _ KA3.out) (fun hHeld3 => ?_)
          clear hK K hHeld2
          try simp only [Act.put, pu1, pu2, pu3]
          refine wpAnyG_ready (rs := [11]) (by kernel_rfl) (by simp) ?_
          refine AllReadyG.cons (o := ⟨some 182, .call { callee := .builtin .append, args := #[.tmp 175, .tmp 181], argTypes := #[24, 24] }, 24, _, _, none⟩) rfl (fun K hK => ?_) AllReadyG.nil
          obtain ⟨a11, n11, c11, A4, run, MN, ⟨aa11, rfl⟩, hn, kk⟩ := MM.app ((lit_rs hgL).src) (fun h => by simp at h) (by have := HHL.out; have := HNT.out; have := HKL.out; omega)
          refine step_app2 (by rfl) _ _ 24 24 (by rfl) _ _ (by rfl) (by rfl) run ?_
          have KA4 : Hid (Kp [] w5 A4) := kt B0.out MN.2.1
          clear MM
          have MM := MN
          have HNY : Hid (n11 = n4 + 1) := hn
          clear run kk hn MN
          refine hK.out _ _ (CC.out _ KA4.out) (fun hHeld4 => ?_)
          clear hK K hHeld3
          try simp only [Act.put, pu1, pu2, pu3]
          refine wpAnyG_ready (rs := [15]) (by kernel_rfl) (by simp) ?_
          refine AllReadyG.cons (o := ⟨some 186, .call { callee := .builtin .append, args := #[.tmp 182, .tmp 185], argTypes := #[24, 24] }, 24, _, _, none⟩) rfl (fun K hK => ?_) AllReadyG.nil
          obtain ⟨a15, n15, c15, A5, run, MN, ⟨aa15, rfl⟩, hn, kk⟩ := MM.app (HSD.out _ KA4.out) (fun h => by simp at h) (by have := HHL.out; have := HNT.out; have := HNY.out; have := HKL.out; omega)
          refine step_app2 (by rfl) _ _ 24 24 (by rfl) _ _ (by rfl) (by rfl) run ?_
          have KA5 : Hid (Kp [] w5 A5) := kt B0.out MN.2.1
          clear MM
          have MM := MN
          have HND : Hid (n15 = n11 + (0)) := hn
          clear run kk hn MN
          refine hK.out _ _ (CC.out _ KA5.out) (fun hHeld5 => ?_)
          clear hK K hHeld4
          try simp only [Act.put, pu1, pu2, pu3]
          refine g_pure 16 (some 1) (.assign (.tmp 186)) ?_
          refine wpAnyG_free (by kernel_rfl) ?_
          refine wpAny_done (by kernel_rfl) ?_ _
          have HD := Hid.mk (HF.out _ _ _ _ (Ms.ahead B0.out MM))
          clear HF CC HST HSD KA0 KA1 KA2 KA3 KA4 KA5 MM B0 HNT HNY HND hl0 HKL hgL
          obtain ⟨rT, BT, lT, zT, oT, eT, bT⟩ := HD.out
          have HTl := tells_any w0 A5 q BT rT (zs.take (0) ++ (false, H, X, A) :: zs.drop (0)) (some aa15) n15 c15 7 H N 0 sa sn sc lT zT (by have := HHL.out; omega)
          obtain ⟨c0, c1, c2, c3, c4⟩ := HA.out _ eT
          have HFin : Hid (∀ V, Kp [] A5 V → Dn w0 q zs (.returned (.tuple #[.slice (some aa15) n15 c15, .bool true])) V) := fun V kV => ⟨_, _, _, rT, (zs.take (0) ++ (false, H, X, A) :: zs.drop (0)), BT, rfl, lT.kept kV, zT.kept kV, oT, kt (HK1.out _ eT) kV, bT⟩
          clear lT zT oT eT bT HA HK1 HD
          go_wp2_with fail
          refine HTl.mono ?_
          rintro e w8 ⟨rfl, k8⟩
          have HF8 := Hid.mk (HFin.out w8 k8)
          clear HTl HFin k8
          go_wp2
          go_ret2
          exact HF8.out
        refine AllReadyG.cons (o := ⟨some 181, .buildSlice 24 1 #[(0, .tmp 180)], 24, _, _, none⟩) rfl (fun K hK => ?_) AllReadyG.nil
        go_simp
        have hgL : (A1.alloc (.cells #[.bool false, .int .i64 H, .string X, .slice so s1 s2] 40)).heap[A1.heap.size]? = some (.cells (rc (false, H, X, so, s1, s2)) 40 (0, 0)) := heap_new _ _
        obtain ⟨A2, hU⟩ : ∃ V, V = World.alloc A1 (.cells #[.bool false, .int .i64 H, .string X, .slice so s1 s2] 40) := ⟨_, rfl⟩
        have kk : Kp [] A1 A2 := by rw [hU]; exact (Kp.refl _ _).alloc _
        rw [← hU] at hgL ⊢
        have KA2 : Hid (Kp [] w5 A2) := kt KA1.out kk
        have MM := MM.kept kk
        obtain ⟨gL, hgg⟩ : ∃ g, A1.heap.size = g := ⟨_, rfl⟩
        rw [hgg] at hgL ⊢
        have hne : gL ≠ g0 := by omega
        clear hU hgg kk
        refine hK.out _ _ (CC.out _ KA2.out) (fun hHeld2 => ?_)
        clear hK K hHeld1
        try simp only [Act.put, pu1, pu2, pu3]
        refine wpAnyG_ready (rs := [4]) (by kernel_rfl) (by simp) ?_
        refine AllReadyG.cons (o := ⟨some 175, .call { callee := .builtin .append, args := #[.tmp 171, .tmp 174], argTypes := #[24, 24] }, 24, _, _, none⟩) rfl (fun K hK => ?_) AllReadyG.nil
        obtain ⟨a4, n4, c4, A3, run, MN, ⟨aa4, rfl⟩, hn, kk⟩ := MM.app (HST.out _ KA2.out) (fun h => by simp at h) (by have := HHL.out; have := HKL.out; omega)
        refine step_app2 (by rfl) _ _ 24 24 (by rfl) _ _ (by rfl) (by rfl) run ?_
        have KA3 : Hid (Kp [] w5 A3) := kt B0.out MN.2.1
        clear MM
        have MM := MN
        have HNT : Hid (n4 = 0 + (0)) := hn
        have hgL := (kk.block _ (lt_of hgL) (by simp [blk]; exact hne)).trans hgL
        clear run kk hn MN
        refine hK.out _ _ (CC.out _ KA3.out) (fun hHeld3 => ?_)
        clear hK K hHeld2
        try simp only [Act.put, pu1, pu2, pu3]
        refine wpAnyG_ready (rs := [11]) (by kernel_rfl) (by simp) ?_
        refine AllReadyG.cons (o := ⟨some 182, .call { callee := .builtin .append, args := #[.tmp 175, .tmp 181], argTypes := #[24, 24] }, 24, _, _, none⟩) rfl (fun K hK => ?_) AllReadyG.nil
        obtain ⟨a11, n11, c11, A4, run, MN, ⟨aa11, rfl⟩, hn, kk⟩ := MM.app ((lit_rs hgL).src) (fun h => by simp at h) (by have := HHL.out; have := HNT.out; have := HKL.out; omega)
        refine step_app2 (by rfl) _ _ 24 24 (by rfl) _ _ (by rfl) (by rfl) run ?_
        have KA4 : Hid (Kp [] w5 A4) := kt B0.out MN.2.1
        clear MM
        have MM := MN
        have HNY : Hid (n11 = n4 + 1) := hn
        clear run kk hn MN
        refine hK.out _ _ (CC.out _ KA4.out) (fun hHeld4 => ?_)
        clear hK K hHeld3
        try simp only [Act.put, pu1, pu2, pu3]
        refine wpAnyG_ready (rs := [15]) (by kernel_rfl) (by simp) ?_
        refine AllReadyG.cons (o := ⟨some 186, .call { callee := .builtin .append, args := #[.tmp 182, .tmp 185], argTypes := #[24, 24] }, 24, _, _, none⟩) rfl (fun K hK => ?_) AllReadyG.nil
        obtain ⟨a15, n15, c15, A5, run, MN, ⟨aa15, rfl⟩, hn, kk⟩ := MM.app (HSD.out _ KA4.out) (fun h => by simp at h) (by have := HHL.out; have := HNT.out; have := HNY.out; have := HKL.out; omega)
        refine step_app2 (by rfl) _ _ 24 24 (by rfl) _ _ (by rfl) (by rfl) run ?_
        have KA5 : Hid (Kp [] w5 A5) := kt B0.out MN.2.1
        clear MM
        have MM := MN
        have HND : Hid (n15 = n11 + (0)) := hn
        clear run kk hn MN
        refine hK.out _ _ (CC.out _ KA5.out) (fun hHeld5 => ?_)
        clear hK K hHeld4
        try simp only [Act.put, pu1, pu2, pu3]
        refine g_pure 16 (some 1) (.assign (.tmp 186)) ?_
        refine wpAnyG_free (by kernel_rfl) ?_
        refine wpAny_done (by kernel_rfl) ?_ _
        have HD := Hid.mk (HF.out _ _ _ _ (Ms.ahead B0.out MM))
        clear HF CC HST HSD KA0 KA1 KA2 KA3 KA4 KA5 MM B0 HNT HNY HND hl0 HKL hgL hne
        obtain ⟨rT, BT, lT, zT, oT, eT, bT⟩ := HD.out
        have HTl := tells_any w0 A5 q BT rT (zs.take (0) ++ (false, H, X, A) :: zs.drop (0)) (some aa15) n15 c15 7 H N 0 sa sn sc lT zT (by have := HHL.out; omega)
        obtain ⟨c0, c1, c2, c3, c4⟩ := HA.out _ eT
        have HFin : Hid (∀ V, Kp [] A5 V → Dn w0 q zs (.returned (.tuple #[.slice (some aa15) n15 c15, .bool true])) V) := fun V kV => ⟨_, _, _, rT, (zs.take (0) ++ (false, H, X, A) :: zs.drop (0)), BT, rfl, lT.kept kV, zT.kept kV, oT, kt (HK1.out _ eT) kV, bT⟩
        clear lT zT oT eT bT HA HK1 HD
        go_wp2_with fail
        refine HTl.mono ?_
        rintro e w8 ⟨rfl, k8⟩
        have HF8 := Hid.mk (HFin.out w8 k8)
        clear HTl HFin k8
        go_wp2
        go_ret2
        exact HF8.out
      refine AllReadyG.cons (o := ⟨some 181, .buildSlice 24 1 #[(0, .tmp 180)], 24, _, _, none⟩) rfl (fun K hK => ?_) AllReadyG.nil
      go_simp
      have hgL : (A0.alloc (.cells #[.bool false, .int .i64 H, .string X, .slice so s1 s2] 40)).heap[A0.heap.size]? = some (.cells (rc (false, H, X, so, s1, s2)) 40 (0, 0)) := heap_new _ _
      obtain ⟨A1, hU⟩ : ∃ V, V = World.alloc A0 (.cells #[.bool false, .int .i64 H, .string X, .slice so s1 s2] 40) := ⟨_, rfl⟩
      have kk : Kp [] A0 A1 := by rw [hU]; exact (Kp.refl _ _).alloc _
      rw [← hU] at hgL ⊢
      have KA1 : Hid (Kp [] w5 A1) := kt KA0.out kk
      obtain ⟨gL, hgg⟩ : ∃ g, A0.heap.size = g := ⟨_, rfl⟩
      rw [hgg] at hgL ⊢
      clear hU hgg kk
      refine hK.out _ _ (CC.out _ KA1.out) (fun hHeld1 => ?_)
      clear hK K hHeld
      try simp only [Act.put, pu1, pu2, pu3]
      refine wpAnyG_ready (rs := [0]) (by kernel_rfl) (by simp) ?_
      refine AllReadyG.cons (o := ⟨some 171, .buildSlice 24 0 #[], 24, _, _, none⟩) rfl (fun K hK => ?_) AllReadyG.nil
      go_simp
      have MM := Ms.empty A1
      have hl0 : A1.heap.size < (A1.alloc (.cells #[] 40)).heap.size := lt_of (heap_new A1 (.cells #[] 40))
      obtain ⟨A2, hU⟩ : ∃ V, V = World.alloc A1 (.cells #[] 40) := ⟨_, rfl⟩
      rw [← hU] at MM hl0 ⊢
      have KA2 : Hid (Kp [] w5 A2) := kt KA1.out MM.2.1
      have B0 : Hid (Kp [] w5 A1) := KA1
      have hlL := lt_of hgL
      have hgL := (MM.2.1.block _ (lt_of hgL) (by simp)).trans hgL
      obtain ⟨g0, hg0⟩ : ∃ g, A1.heap.size = g := ⟨_, rfl⟩
      rw [hg0] at MM hl0 ⊢
      have hne : gL ≠ g0 := by omega
      clear hlL
      clear hU hg0
      refine hK.out _ _ (CC.out _ KA2.out) (fun hHeld2 => ?_)
      clear hK K hHeld1
      try simp only [Act.put, pu1, pu2, pu3]
      refine wpAnyG_ready (rs := [4]) (by kernel_rfl) (by simp) ?_
      refine AllReadyG.cons (o := ⟨some 175, .call { callee := .builtin .append, args := #[.tmp 171, .tmp 174], argTypes := #[24, 24] }, 24, _, _, none⟩) rfl (fun K hK => ?_) AllReadyG.nil
      obtain ⟨a4, n4, c4, A3, run, MN, ⟨aa4, rfl⟩, hn, kk⟩ := MM.app (HST.out _ KA2.out) (fun h => by simp at h) (by have := HHL.out; have := HKL.out; omega)
      refine step_app2 (by rfl) _ _ 24 24 (by rfl) _ _ (by rfl) (by rfl) run ?_
      have KA3 : Hid (Kp [] w5 A3) := kt B0.out MN.2.1
      clear MM
      have MM := MN
      have HNT : Hid (n4 = 0 + (0)) := hn
      have hgL := (kk.block _ (lt_of hgL) (by simp [blk]; exact hne)).trans hgL
      clear run kk hn MN
      refine hK.out _ _ (CC.out _ KA3.out) (fun hHeld3 => ?_)
      clear hK K hHeld2
      try simp only [Act.put, pu1, pu2, pu3]
      refine wpAnyG_ready (rs := [11]) (by kernel_rfl) (by simp) ?_
      refine AllReadyG.cons (o := ⟨some 182, .call { callee := .builtin .append, args := #[.tmp 175, .tmp 181], argTypes := #[24, 24] }, 24, _, _, none⟩) rfl (fun K hK => ?_) AllReadyG.nil
      obtain ⟨a11, n11, c11, A4, run, MN, ⟨aa11, rfl⟩, hn, kk⟩ := MM.app ((lit_rs hgL).src) (fun h => by simp at h) (by have := HHL.out; have := HNT.out; have := HKL.out; omega)
      refine step_app2 (by rfl) _ _ 24 24 (by rfl) _ _ (by rfl) (by rfl) run ?_
      have KA4 : Hid (Kp [] w5 A4) := kt B0.out MN.2.1
      clear MM
      have MM := MN
      have HNY : Hid (n11 = n4 + 1) := hn
      clear run kk hn MN
      refine hK.out _ _ (CC.out _ KA4.out) (fun hHeld4 => ?_)
      clear hK K hHeld3
      try simp only [Act.put, pu1, pu2, pu3]
      refine wpAnyG_ready (rs := [15]) (by kernel_rfl) (by simp) ?_
      refine AllReadyG.cons (o := ⟨some 186, .call { callee := .builtin .append, args := #[.tmp 182, .tmp 185], argTypes := #[24, 24] }, 24, _, _, none⟩) rfl (fun K hK => ?_) AllReadyG.nil
      obtain ⟨a15, n15, c15, A5, run, MN, ⟨aa15, rfl⟩, hn, kk⟩ := MM.app (HSD.out _ KA4.out) (fun h => by simp at h) (by have := HHL.out; have := HNT.out; have := HNY.out; have := HKL.out; omega)
      refine step_app2 (by rfl) _ _ 24 24 (by rfl) _ _ (by rfl) (by rfl) run ?_
      have KA5 : Hid (Kp [] w5 A5) := kt B0.out MN.2.1
      clear MM
      have MM := MN
      have HND : Hid (n15 = n11 + (0)) := hn
      clear run kk hn MN
      refine hK.out _ _ (CC.out _ KA5.out) (fun hHeld5 => ?_)
      clear hK K hHeld4
      try simp only [Act.put, pu1, pu2, pu3]
      refine g_pure 16 (some 1) (.assign (.tmp 186)) ?_
      refine wpAnyG_free (by kernel_rfl) ?_
      refine wpAny_done (by kernel_rfl) ?_ _
      have HD := Hid.mk (HF.out _ _ _ _ (Ms.ahead B0.out MM))
      clear HF CC HST HSD KA0 KA1 KA2 KA3 KA4 KA5 MM B0 HNT HNY HND hl0 HKL hgL hne
      obtain ⟨rT, BT, lT, zT, oT, eT, bT⟩ := HD.out
      have HTl := tells_any w0 A5 q BT rT (zs.take (0) ++ (false, H, X, A) :: zs.drop (0)) (some aa15) n15 c15 7 H N 0 sa sn sc lT zT (by have := HHL.out; omega)
      obtain ⟨c0, c1, c2, c3, c4⟩ := HA.out _ eT
      have HFin : Hid (∀ V, Kp [] A5 V → Dn w0 q zs (.returned (.tuple #[.slice (some aa15) n15 c15, .bool true])) V) := fun V kV => ⟨_, _, _, rT, (zs.take (0) ++ (false, H, X, A) :: zs.drop (0)), BT, rfl, lT.kept kV, zT.kept kV, oT, kt (HK1.out _ eT) kV, bT⟩
      clear lT zT oT eT bT HA HK1 HD
      go_wp2_with fail
      refine HTl.mono ?_
      rintro e w8 ⟨rfl, k8⟩
      have HF8 := Hid.mk (HFin.out w8 k8)
      clear HTl HFin k8
      go_wp2
      go_ret2
      exact HF8.out
  clear HAt
  rcases (show I < 0 ∨ (zs.length : Int) < I ∨ ∃ k : Nat, I = k ∧ k ≤ zs.length from by
    by_cases h1 : I < 0
    · exact Or.inl h1
    · by_cases h2 : (zs.length : Int) < I
      · exact Or.inr (Or.inl h2)
      · exact Or.inr (Or.inr ⟨I.toNat, by omega, by omega⟩)) with hI | hI | ⟨k, hI, hkl⟩
  · have q0 : decide (I < 0) = true := decide_eq_true hI
    have q8 : decide ((zs.length : Int) < 0) = false := decide_eq_false (by omega)
    have hcl : clp zs.length I = 0 := by unfold clp; omega
    have HF : Hid (∀ W ao n' c', Ms w5 W ao n' c' ([] ++ rl.take (0) ++ [((false, H, X, so, s1, s2) : Raw)] ++ rl.drop (0)) → Dt w0 w1 q B (zs.length + 1) W (zs.take (0) ++ (false, H, X, A) :: zs.drop (0)) ao n' c') := fun W ao n' c' M => Dt.made (by
      have h9 := l5
      unfold ins at h9
      rw [hcl] at h9
      exact h9) ⟨_, M, by
      have h1 := (((z5.sm.kept M.2.1).take (0)).append' (Sms.one (s5.kept M.2.1))).append' ((z5.sm.kept M.2.1).drop (0))
      simpa using h1⟩ M.2.1 e5 (by first | (simp; omega) | simp)
    have q1 : (0 : Int) ≤ (0 : Int) := by omega
    have q2 : (0 : Int) ≤ (d : Int) := by omega
    have q3 : (0 : Int) ≤ (zs.length : Int) := by omega
    have q6 : (zs.length : Int) ≤ (d : Int) := by omega
    have HST : Hid (∀ W, Kp [] w5 W → Src Try.prog 4 24 (.slice (some ⟨bb, of, none⟩) 0 d) (0) (cz (rl.take (0))) W) := fun W kW => ((z5.rs.kept kW).take 0 (by omega)).src
    have HSD : Hid (∀ W, Kp [] w5 W → Src Try.prog 4 24 (.slice (some ⟨bb, of, none⟩) zs.length d) (zs.length) (cz (rl.drop (0))) W) := fun W kW => by
      rw [List.drop_zero]
      exact (z5.rs.kept kW).src
    have HKL : Hid ((0 : Nat) ≤ zs.length) := by have := hcap; have h9 := clp_le zs.length I; rw [hcl] at h9; exact h9
    clear hcl l5 e5 z5 s5
    go_upto_region 40 with fail
    obtain ⟨A0, hA0⟩ : ∃ V, V = w5.drew := ⟨_, rfl⟩
    have KA0 : Hid (Kp [] w5 A0) := by rw [hA0]; exact (Kp.refl _ _).drew
    refine wp_region_g (S := fun V => V.cell? ⟨ga, 1, none⟩ = some (.int .i64 H)) (T := []) (by kernel_rfl) (CC.out _ (Kp.refl [] w5).drew) (fun hHeld => ?_)
    rw [← hA0] at hHeld ⊢
    clear hA0
    refine g_pure 1 (some 172) (.move (.tmp 1)) ?_
    refine g_pure 2 (some 173) (.move (.tmp 16)) ?_
    refine g_pure 3 (some 174) (.slice 24 (.tmp 172) none (some (.tmp 173)) none) ?_
    refine g_pure 5 (some 176) (.fieldAddr 29 (.tmp 5) 1) ?_
    refine g_take 6 (some 177) (.load 3 (.tmp 176)) (by intro w hSw; (have u0 := hSw); go_simp; try with_reducible rfl) ?_
    refine g_pure 7 (some 178) (.move (.tmp 8)) ?_
    refine g_pure 8 (some 179) (.move (.tmp 9)) ?_
    refine g_pure 9 (some 180) (.build 40 #[(1, .tmp 177), (2, .tmp 178), (3, .tmp 179)]) ?_
    refine g_pure 12 (some 183) (.move (.tmp 1)) ?_
    refine g_pure 13 (some 184) (.move (.tmp 16)) ?_
    refine g_pure 14 (some 185) (.slice 24 (.tmp 183) (some (.tmp 184)) none none) ?_
    refine wpAnyG_ready (rs := [0, 10]) (by kernel_rfl) (by simp) ?_
    refine AllReadyG.cons (o := ⟨some 171, .buildSlice 24 0 #[], 24, _, _, none⟩) rfl (fun K hK => ?_) ?_
    · go_simp
      have MM := Ms.empty A0
      have hl0 : A0.heap.size < (A0.alloc (.cells #[] 40)).heap.size := lt_of (heap_new A0 (.cells #[] 40))
      obtain ⟨A1, hU⟩ : ∃ V, V = World.alloc A0 (.cells #[] 40) := ⟨_, rfl⟩
      rw [← hU] at MM hl0 ⊢
      have KA1 : Hid (Kp [] w5 A1) := kt KA0.out MM.2.1
      have B0 : Hid (Kp [] w5 A0) := KA0
      obtain ⟨g0, hg0⟩ : ∃ g, A0.heap.size = g := ⟨_, rfl⟩
      rw [hg0] at MM hl0 ⊢
      clear hU hg0
      refine hK.out _ _ (CC.out _ KA1.out) (fun hHeld1 => ?_)
      clear hK K hHeld
      try simp only [Act.put, pu1, pu2, pu3]
      refine wpAnyG_ready (rs := [4, 10]) (by kernel_rfl) (by simp) ?_
      refine AllReadyG.cons (o := ⟨some 175, .call { callee := .builtin .append, args := #[.tmp 171, .tmp 174], argTypes := #[24, 24] }, 24, _, _, none⟩) rfl (fun K hK => ?_) ?_
      · obtain ⟨a4, n4, c4, A2, run, MN, ⟨aa4, rfl⟩, hn, kk⟩ := MM.app (HST.out _ KA1.out) (fun h => by simp at h) (by have := HHL.out; have := HKL.out; omega)
        refine step_app2 (by rfl) _ _ 24 24 (by rfl) _ _ (by rfl) (by rfl) run ?_
        have KA2 : Hid (Kp [] w5 A2) := kt B0.out MN.2.1
        clear MM
        have MM := MN
        have HNT : Hid (n4 = 0 + (0)) := hn
        clear run kk hn MN
        refine hK.out _ _ (CC.out _ KA2.out) (fun hHeld2 => ?_)
        clear hK K hHeld1
        try simp only [Act.put, pu1, pu2, pu3]
        refine wpAnyG_ready (rs := [10]) (by kernel_rfl) (by simp) ?_
        refine AllReadyG.cons (o := ⟨some 181, .buildSlice 24 1 #[(0, .tmp 180)], 24, _, _, none⟩) rfl (fun K hK => ?_) AllReadyG.nil
        go_simp
        have hgL : (A2.alloc (.cells #[.bool false, .int .i64 H, .string X, .slice so s1 s2] 40)).heap[A2.heap.size]? = some (.cells (rc (false, H, X, so, s1, s2)) 40 (0, 0)) := heap_new _ _
        obtain ⟨A3, hU⟩ : ∃ V, V = World.alloc A2 (.cells #[.bool false, .int .i64 H, .string X, .slice so s1 s2] 40) := ⟨_, rfl⟩
        have kk : Kp [] A2 A3 := by rw [hU]; exact (Kp.refl _ _).alloc _
        rw [← hU] at hgL ⊢
        have KA3 : Hid (Kp [] w5 A3) := kt KA2.out kk
        have MM := MM.kept kk
        obtain ⟨gL, hgg⟩ : ∃ g, A2.heap.size = g := ⟨_, rfl⟩
        rw [hgg] at hgL ⊢
        clear hU hgg kk
        refine hK.out _ _ (CC.out _ KA3.out) (fun hHeld3 => ?_)
        clear hK K hHeld2
        try simp only [Act.put, pu1, pu2, pu3]
        refine wpAnyG_ready (rs := [11]) (by kernel_rfl) (by simp) ?_
        refine AllReadyG.cons (o := ⟨some 182, .call { callee := .builtin .append, args := #[.tmp 175, .tmp 181], argTypes := #[24, 24] }, 24, _, _, none⟩) rfl (fun K hK => ?_) AllReadyG.nil
        obtain ⟨a11, n11, c11, A4, run, MN, ⟨aa11, rfl⟩, hn, kk⟩ := MM.app ((lit_rs hgL).src) (fun h => by simp at h) (by have := HHL.out; have := HNT.out; have := HKL.out; omega)
        refine step_app2 (by rfl) _ _ 24 24 (by rfl) _ _ (by rfl) (by rfl) run ?_
        have KA4 : Hid (Kp [] w5 A4) := kt B0.out MN.2.1
        clear MM
        have MM := MN
        have HNY : Hid (n11 = n4 + 1) := hn
        clear run kk hn MN
        refine hK.out _ _ (CC.out _ KA4.out) (fun hHeld4 => ?_)
        clear hK K hHeld3
        try simp only [Act.put, pu1, pu2, pu3]
        refine wpAnyG_ready (rs := [15]) (by kernel_rfl) (by simp) ?_
        refine AllReadyG.cons (o := ⟨some 186, .call { callee := .builtin .append, args := #[.tmp 182, .tmp 185], argTypes := #[24, 24] }, 24, _, _, none⟩) rfl (fun K hK => ?_) AllReadyG.nil
        obtain ⟨a15, n15, c15, A5, run, MN, ⟨aa15, rfl⟩, hn, kk⟩ := MM.app (HSD.out _ KA4.out) (fun h => by simp at h) (by have := HHL.out; have := HNT.out; have := HNY.out; have := HKL.out; omega)
        refine step_app2 (by rfl) _ _ 24 24 (by rfl) _ _ (by rfl) (by rfl) run ?_
        have KA5 : Hid (Kp [] w5 A5) := kt B0.out MN.2.1
        clear MM
        have MM := MN
        have HND : Hid (n15 = n11 + (zs.length)) := hn
        clear run kk hn MN
        refine hK.out _ _ (CC.out _ KA5.out) (fun hHeld5 => ?_)
        clear hK K hHeld4
        try simp only [Act.put, pu1, pu2, pu3]
        refine g_pure 16 (some 1) (.assign (.tmp 186)) ?_
        refine wpAnyG_free (by kernel_rfl) ?_
        refine wpAny_done (by kernel_rfl) ?_ _
        have HD := Hid.mk (HF.out _ _ _ _ (Ms.ahead B0.out MM))
        clear HF CC HST HSD KA0 KA1 KA2 KA3 KA4 KA5 MM B0 HNT HNY HND hl0 HKL hgL
        obtain ⟨rT, BT, lT, zT, oT, eT, bT⟩ := HD.out
        have HTl := tells_any w0 A5 q BT rT (zs.take (0) ++ (false, H, X, A) :: zs.drop (0)) (some aa15) n15 c15 7 H N I sa sn sc lT zT (by have := HHL.out; omega)
        obtain ⟨c0, c1, c2, c3, c4⟩ := HA.out _ eT
        have HFin : Hid (∀ V, Kp [] A5 V → Dn w0 q zs (.returned (.tuple #[.slice (some aa15) n15 c15, .bool true])) V) := fun V kV => ⟨_, _, _, rT, (zs.take (0) ++ (false, H, X, A) :: zs.drop (0)), BT, rfl, lT.kept kV, zT.kept kV, oT, kt (HK1.out _ eT) kV, bT⟩
        clear lT zT oT eT bT HA HK1 HD
        go_wp2_with fail
        refine HTl.mono ?_
        rintro e w8 ⟨rfl, k8⟩
        have HF8 := Hid.mk (HFin.out w8 k8)
        clear HTl HFin k8
        go_wp2
        go_ret2
        exact HF8.out
      refine AllReadyG.cons (o := ⟨some 181, .buildSlice 24 1 #[(0, .tmp 180)], 24, _, _, none⟩) rfl (fun K hK => ?_) AllReadyG.nil
      go_simp
      have hgL : (A1.alloc (.cells #[.bool false, .int .i64 H, .string X, .slice so s1 s2] 40)).heap[A1.heap.size]? = some (.cells (rc (false, H, X, so, s1, s2)) 40 (0, 0)) := heap_new _ _
      obtain ⟨A2, hU⟩ : ∃ V, V = World.alloc A1 (.cells #[.bool false, .int .i64 H, .string X, .slice so s1 s2] 40) := ⟨_, rfl⟩
      have kk : Kp [] A1 A2 := by rw [hU]; exact (Kp.refl _ _).alloc _
      rw [← hU] at hgL ⊢
      have KA2 : Hid (Kp [] w5 A2) := kt KA1.out kk
      have MM := MM.kept kk
      obtain ⟨gL, hgg⟩ : ∃ g, A1.heap.size = g := ⟨_, rfl⟩
      rw [hgg] at hgL ⊢
      have hne : gL ≠ g0 := by omega
      clear hU hgg kk
      refine hK.out _ _ (CC.out _ KA2.out) (fun hHeld2 => ?_)
      clear hK K hHeld1
      try simp only [Act.put, pu1, pu2, pu3]
      refine wpAnyG_ready (rs := [4]) (by kernel_rfl) (by simp) ?_
      refine AllReadyG.cons (o := ⟨some 175, .call { callee := .builtin .append, args := #[.tmp 171, .tmp 174], argTypes := #[24, 24] }, 24, _, _, none⟩) rfl (fun K hK => ?_) AllReadyG.nil
      obtain ⟨a4, n4, c4, A3, run, MN, ⟨aa4, rfl⟩, hn, kk⟩ := MM.app (HST.out _ KA2.out) (fun h => by simp at h) (by have := HHL.out; have := HKL.out; omega)
      refine step_app2 (by rfl) _ _ 24 24 (by rfl) _ _ (by rfl) (by rfl) run ?_
      have KA3 : Hid (Kp [] w5 A3) := kt B0.out MN.2.1
      clear MM
      have MM := MN
      have HNT : Hid (n4 = 0 + (0)) := hn
      have hgL := (kk.block _ (lt_of hgL) (by simp [blk]; exact hne)).trans hgL
      clear run kk hn MN
      refine hK.out _ _ (CC.out _ KA3.out) (fun hHeld3 => ?_)
      clear hK K hHeld2
      try simp only [Act.put, pu1, pu2, pu3]
      refine wpAnyG_ready (rs := [11]) (by kernel_rfl) (by simp) ?_
      refine AllReadyG.cons (o := ⟨some 182, .call { callee := .builtin .append, args := #[.tmp 175, .tmp 181], argTypes := #[24, 24] }, 24, _, _, none⟩) rfl (fun K hK => ?_) AllReadyG.nil
      obtain ⟨a11, n11, c11, A4, run, MN, ⟨aa11, rfl⟩, hn, kk⟩ := MM.app ((lit_rs hgL).src) (fun h => by simp at h) (by have := HHL.out; have := HNT.out; have := HKL.out; omega)
      refine step_app2 (by rfl) _ _ 24 24 (by rfl) _ _ (by rfl) (by rfl) run ?_
      have KA4 : Hid (Kp [] w5 A4) := kt B0.out MN.2.1
      clear MM
      have MM := MN
      have HNY : Hid (n11 = n4 + 1) := hn
      clear run kk hn MN
      refine hK.out _ _ (CC.out _ KA4.out) (fun hHeld4 => ?_)
      clear hK K hHeld3
      try simp only [Act.put, pu1, pu2, pu3]
      refine wpAnyG_ready (rs := [15]) (by kernel_rfl) (by simp) ?_
      refine AllReadyG.cons (o := ⟨some 186, .call { callee := .builtin .append, args := #[.tmp 182, .tmp 185], argTypes := #[24, 24] }, 24, _, _, none⟩) rfl (fun K hK => ?_) AllReadyG.nil
      obtain ⟨a15, n15, c15, A5, run, MN, ⟨aa15, rfl⟩, hn, kk⟩ := MM.app (HSD.out _ KA4.out) (fun h => by simp at h) (by have := HHL.out; have := HNT.out; have := HNY.out; have := HKL.out; omega)
      refine step_app2 (by rfl) _ _ 24 24 (by rfl) _ _ (by rfl) (by rfl) run ?_
      have KA5 : Hid (Kp [] w5 A5) := kt B0.out MN.2.1
      clear MM
      have MM := MN
      have HND : Hid (n15 = n11 + (zs.length)) := hn
      clear run kk hn MN
      refine hK.out _ _ (CC.out _ KA5.out) (fun hHeld5 => ?_)
      clear hK K hHeld4
      try simp only [Act.put, pu1, pu2, pu3]
      refine g_pure 16 (some 1) (.assign (.tmp 186)) ?_
      refine wpAnyG_free (by kernel_rfl) ?_
      refine wpAny_done (by kernel_rfl) ?_ _
      have HD := Hid.mk (HF.out _ _ _ _ (Ms.ahead B0.out MM))
      clear HF CC HST HSD KA0 KA1 KA2 KA3 KA4 KA5 MM B0 HNT HNY HND hl0 HKL hgL hne
      obtain ⟨rT, BT, lT, zT, oT, eT, bT⟩ := HD.out
      have HTl := tells_any w0 A5 q BT rT (zs.take (0) ++ (false, H, X, A) :: zs.drop (0)) (some aa15) n15 c15 7 H N I sa sn sc lT zT (by have := HHL.out; omega)
      obtain ⟨c0, c1, c2, c3, c4⟩ := HA.out _ eT
      have HFin : Hid (∀ V, Kp [] A5 V → Dn w0 q zs (.returned (.tuple #[.slice (some aa15) n15 c15, .bool true])) V) := fun V kV => ⟨_, _, _, rT, (zs.take (0) ++ (false, H, X, A) :: zs.drop (0)), BT, rfl, lT.kept kV, zT.kept kV, oT, kt (HK1.out _ eT) kV, bT⟩
      clear lT zT oT eT bT HA HK1 HD
      go_wp2_with fail
      refine HTl.mono ?_
      rintro e w8 ⟨rfl, k8⟩
      have HF8 := Hid.mk (HFin.out w8 k8)
      clear HTl HFin k8
      go_wp2
      go_ret2
      exact HF8.out
    refine AllReadyG.cons (o := ⟨some 181, .buildSlice 24 1 #[(0, .tmp 180)], 24, _, _, none⟩) rfl (fun K hK => ?_) AllReadyG.nil
    go_simp
    have hgL : (A0.alloc (.cells #[.bool false, .int .i64 H, .string X, .slice so s1 s2] 40)).heap[A0.heap.size]? = some (.cells (rc (false, H, X, so, s1, s2)) 40 (0, 0)) := heap_new _ _
    obtain ⟨A1, hU⟩ : ∃ V, V = World.alloc A0 (.cells #[.bool false, .int .i64 H, .string X, .slice so s1 s2] 40) := ⟨_, rfl⟩
    have kk : Kp [] A0 A1 := by rw [hU]; exact (Kp.refl _ _).alloc _
    rw [← hU] at hgL ⊢
    have KA1 : Hid (Kp [] w5 A1) := kt KA0.out kk
    obtain ⟨gL, hgg⟩ : ∃ g, A0.heap.size = g := ⟨_, rfl⟩
    rw [hgg] at hgL ⊢
    clear hU hgg kk
    refine hK.out _ _ (CC.out _ KA1.out) (fun hHeld1 => ?_)
    clear hK K hHeld
    try simp only [Act.put, pu1, pu2, pu3]
    refine wpAnyG_ready (rs := [0]) (by kernel_rfl) (by simp) ?_
    refine AllReadyG.cons (o := ⟨some 171, .buildSlice 24 0 #[], 24, _, _, none⟩) rfl (fun K hK => ?_) AllReadyG.nil
    go_simp
    have MM := Ms.empty A1
    have hl0 : A1.heap.size < (A1.alloc (.cells #[] 40)).heap.size := lt_of (heap_new A1 (.cells #[] 40))
    obtain ⟨A2, hU⟩ : ∃ V, V = World.alloc A1 (.cells #[] 40) := ⟨_, rfl⟩
    rw [← hU] at MM hl0 ⊢
    have KA2 : Hid (Kp [] w5 A2) := kt KA1.out MM.2.1
    have B0 : Hid (Kp [] w5 A1) := KA1
    have hlL := lt_of hgL
    have hgL := (MM.2.1.block _ (lt_of hgL) (by simp)).trans hgL
    obtain ⟨g0, hg0⟩ : ∃ g, A1.heap.size = g := ⟨_, rfl⟩
    rw [hg0] at MM hl0 ⊢
    have hne : gL ≠ g0 := by omega
    clear hlL
    clear hU hg0
    refine hK.out _ _ (CC.out _ KA2.out) (fun hHeld2 => ?_)
    clear hK K hHeld1
    try simp only [Act.put, pu1, pu2, pu3]
    refine wpAnyG_ready (rs := [4]) (by kernel_rfl) (by simp) ?_
    refine AllReadyG.cons (o := ⟨some 175, .call { callee := .builtin .append, args := #[.tmp 171, .tmp 174], argTypes := #[24, 24] }, 24, _, _, none⟩) rfl (fun K hK => ?_) AllReadyG.nil
    obtain ⟨a4, n4, c4, A3, run, MN, ⟨aa4, rfl⟩, hn, kk⟩ := MM.app (HST.out _ KA2.out) (fun h => by simp at h) (by have := HHL.out; have := HKL.out; omega)
    refine step_app2 (by rfl) _ _ 24 24 (by rfl) _ _ (by rfl) (by rfl) run ?_
    have KA3 : Hid (Kp [] w5 A3) := kt B0.out MN.2.1
    clear MM
    have MM := MN
    have HNT : Hid (n4 = 0 + (0)) := hn
    have hgL := (kk.block _ (lt_of hgL) (by simp [blk]; exact hne)).trans hgL
    clear run kk hn MN
    refine hK.out _ _ (CC.out _ KA3.out) (fun hHeld3 => ?_)
    clear hK K hHeld2
    try simp only [Act.put, pu1, pu2, pu3]
    refine wpAnyG_ready (rs := [11]) (by kernel_rfl) (by simp) ?_
    refine AllReadyG.cons (o := ⟨some 182, .call { callee := .builtin .append, args := #[.tmp 175, .tmp 181], argTypes := #[24, 24] }, 24, _, _, none⟩) rfl (fun K hK => ?_) AllReadyG.nil
    obtain ⟨a11, n11, c11, A4, run, MN, ⟨aa11, rfl⟩, hn, kk⟩ := MM.app ((lit_rs hgL).src) (fun h => by simp at h) (by have := HHL.out; have := HNT.out; have := HKL.out; omega)
    refine step_app2 (by rfl) _ _ 24 24 (by rfl) _ _ (by rfl) (by rfl) run ?_
    have KA4 : Hid (Kp [] w5 A4) := kt B0.out MN.2.1
    clear MM
    have MM := MN
    have HNY : Hid (n11 = n4 + 1) := hn
    clear run kk hn MN
    refine hK.out _ _ (CC.out _ KA4.out) (fun hHeld4 => ?_)
    clear hK K hHeld3
    try simp only [Act.put, pu1, pu2, pu3]
    refine wpAnyG_ready (rs := [15]) (by kernel_rfl) (by simp) ?_
    refine AllReadyG.cons (o := ⟨some 186, .call { callee := .builtin .append, args := #[.tmp 182, .tmp 185], argTypes := #[24, 24] }, 24, _, _, none⟩) rfl (fun K hK => ?_) AllReadyG.nil
    obtain ⟨a15, n15, c15, A5, run, MN, ⟨aa15, rfl⟩, hn, kk⟩ := MM.app (HSD.out _ KA4.out) (fun h => by simp at h) (by have := HHL.out; have := HNT.out; have := HNY.out; have := HKL.out; omega)
    refine step_app2 (by rfl) _ _ 24 24 (by rfl) _ _ (by rfl) (by rfl) run ?_
    have KA5 : Hid (Kp [] w5 A5) := kt B0.out MN.2.1
    clear MM
    have MM := MN
    have HND : Hid (n15 = n11 + (zs.length)) := hn
    clear run kk hn MN
    refine hK.out _ _ (CC.out _ KA5.out) (fun hHeld5 => ?_)
    clear hK K hHeld4
    try simp only [Act.put, pu1, pu2, pu3]
    refine g_pure 16 (some 1) (.assign (.tmp 186)) ?_
    refine wpAnyG_free (by kernel_rfl) ?_
    refine wpAny_done (by kernel_rfl) ?_ _
    have HD := Hid.mk (HF.out _ _ _ _ (Ms.ahead B0.out MM))
    clear HF CC HST HSD KA0 KA1 KA2 KA3 KA4 KA5 MM B0 HNT HNY HND hl0 HKL hgL hne
    obtain ⟨rT, BT, lT, zT, oT, eT, bT⟩ := HD.out
    have HTl := tells_any w0 A5 q BT rT (zs.take (0) ++ (false, H, X, A) :: zs.drop (0)) (some aa15) n15 c15 7 H N I sa sn sc lT zT (by have := HHL.out; omega)
    obtain ⟨c0, c1, c2, c3, c4⟩ := HA.out _ eT
    have HFin : Hid (∀ V, Kp [] A5 V → Dn w0 q zs (.returned (.tuple #[.slice (some aa15) n15 c15, .bool true])) V) := fun V kV => ⟨_, _, _, rT, (zs.take (0) ++ (false, H, X, A) :: zs.drop (0)), BT, rfl, lT.kept kV, zT.kept kV, oT, kt (HK1.out _ eT) kV, bT⟩
    clear lT zT oT eT bT HA HK1 HD
    go_wp2_with fail
    refine HTl.mono ?_
    rintro e w8 ⟨rfl, k8⟩
    have HF8 := Hid.mk (HFin.out w8 k8)
    clear HTl HFin k8
    go_wp2
    go_ret2
    exact HF8.out
  · have q0 : decide (I < 0) = false := decide_eq_false (by omega)
    have q8 : decide ((zs.length : Int) < I) = true := decide_eq_true hI
    have hcl : clp zs.length I = zs.length := by unfold clp; omega
    have HF : Hid (∀ W ao n' c', Ms w5 W ao n' c' ([] ++ rl.take (zs.length) ++ [((false, H, X, so, s1, s2) : Raw)] ++ rl.drop (zs.length)) → Dt w0 w1 q B (zs.length + 1) W (zs.take (zs.length) ++ (false, H, X, A) :: zs.drop (zs.length)) ao n' c') := fun W ao n' c' M => Dt.made (by
      have h9 := l5
      unfold ins at h9
      rw [hcl] at h9
      exact h9) ⟨_, M, by
      have h1 := (((z5.sm.kept M.2.1).take (zs.length)).append' (Sms.one (s5.kept M.2.1))).append' ((z5.sm.kept M.2.1).drop (zs.length))
      simpa using h1⟩ M.2.1 e5 (by first | (simp; omega) | simp)
    obtain ⟨ko, hko⟩ : ∃ q, (if d = zs.length then (some ⟨bb, of, none⟩ : Option Addr) else some ⟨bb, of + zs.length * 4, none⟩) = q := ⟨_, rfl⟩
    have q1 : (0 : Int) ≤ (zs.length : Int) := by omega
    have q2 : (zs.length : Int) ≤ (d : Int) := by omega
    have q3 : (zs.length : Int) ≤ (zs.length : Int) := by omega
    have q6 : (zs.length : Int) ≤ (d : Int) := by omega
    have HST : Hid (∀ W, Kp [] w5 W → Src Try.prog 4 24 (.slice (some ⟨bb, of, none⟩) zs.length d) (zs.length) (cz (rl.take (zs.length))) W) := fun W kW => ((z5.rs.kept kW).take zs.length (by omega)).src
    have HSD : Hid (∀ W, Kp [] w5 W → Src Try.prog 4 24 (.slice ko 0 (d - zs.length)) (0) (cz (rl.drop (zs.length))) W) := fun W kW => by
      have h1 := ((z5.rs.kept kW).drop zs.length (by omega) ko hko.symm).src
      rw [Nat.sub_self] at h1
      exact h1
    have HKL : Hid ((zs.length : Nat) ≤ zs.length) := by have := hcap; have h9 := clp_le zs.length I; rw [hcl] at h9; exact h9
    clear hcl l5 e5 z5 s5
    go_upto_region 40 with fail
    obtain ⟨A0, hA0⟩ : ∃ V, V = w5.drew := ⟨_, rfl⟩
    have KA0 : Hid (Kp [] w5 A0) := by rw [hA0]; exact (Kp.refl _ _).drew
    refine wp_region_g (S := fun V => V.cell? ⟨ga, 1, none⟩ = some (.int .i64 H)) (T := []) (by kernel_rfl) (CC.out _ (Kp.refl [] w5).drew) (fun hHeld => ?_)
    rw [← hA0] at hHeld ⊢
    clear hA0
    refine g_pure 1 (some 172) (.move (.tmp 1)) ?_
    refine g_pure 2 (some 173) (.move (.tmp 16)) ?_
    refine g_pure 3 (some 174) (.slice 24 (.tmp 172) none (some (.tmp 173)) none) ?_
    refine g_pure 5 (some 176) (.fieldAddr 29 (.tmp 5) 1) ?_
    refine g_take 6 (some 177) (.load 3 (.tmp 176)) (by intro w hSw; (have u0 := hSw); go_simp; try with_reducible rfl) ?_
    refine g_pure 7 (some 178) (.move (.tmp 8)) ?_
    refine g_pure 8 (some 179) (.move (.tmp 9)) ?_
    refine g_pure 9 (some 180) (.build 40 #[(1, .tmp 177), (2, .tmp 178), (3, .tmp 179)]) ?_
    refine g_pure 12 (some 183) (.move (.tmp 1)) ?_
    refine g_pure 13 (some 184) (.move (.tmp 16)) ?_
    refine g_pure 14 (some 185) (.slice 24 (.tmp 183) (some (.tmp 184)) none none) ?_
    refine wpAnyG_ready (rs := [0, 10]) (by kernel_rfl) (by simp) ?_
    refine AllReadyG.cons (o := ⟨some 171, .buildSlice 24 0 #[], 24, _, _, none⟩) rfl (fun K hK => ?_) ?_
    · go_simp
      have MM := Ms.empty A0
      have hl0 : A0.heap.size < (A0.alloc (.cells #[] 40)).heap.size := lt_of (heap_new A0 (.cells #[] 40))
      obtain ⟨A1, hU⟩ : ∃ V, V = World.alloc A0 (.cells #[] 40) := ⟨_, rfl⟩
      rw [← hU] at MM hl0 ⊢
      have KA1 : Hid (Kp [] w5 A1) := kt KA0.out MM.2.1
      have B0 : Hid (Kp [] w5 A0) := KA0
      obtain ⟨g0, hg0⟩ : ∃ g, A0.heap.size = g := ⟨_, rfl⟩
      rw [hg0] at MM hl0 ⊢
      clear hU hg0
      refine hK.out _ _ (CC.out _ KA1.out) (fun hHeld1 => ?_)
      clear hK K hHeld
      try simp only [Act.put, pu1, pu2, pu3]
      refine wpAnyG_ready (rs := [4, 10]) (by kernel_rfl) (by simp) ?_
      refine AllReadyG.cons (o := ⟨some 175, .call { callee := .builtin .append, args := #[.tmp 171, .tmp 174], argTypes := #[24, 24] }, 24, _, _, none⟩) rfl (fun K hK => ?_) ?_
      · obtain ⟨a4, n4, c4, A2, run, MN, ⟨aa4, rfl⟩, hn, kk⟩ := MM.app (HST.out _ KA1.out) (fun h => by simp at h) (by have := HHL.out; have := HKL.out; omega)
        refine step_app2 (by rfl) _ _ 24 24 (by rfl) _ _ (by rfl) (by rfl) run ?_
        have KA2 : Hid (Kp [] w5 A2) := kt B0.out MN.2.1
        clear MM
        have MM := MN
        have HNT : Hid (n4 = 0 + (zs.length)) := hn
        clear run kk hn MN
        refine hK.out _ _ (CC.out _ KA2.out) (fun hHeld2 => ?_)
        clear hK K hHeld1
        try simp only [Act.put, pu1, pu2, pu3]
        refine wpAnyG_ready (rs := [10]) (by kernel_rfl) (by simp) ?_
        refine AllReadyG.cons (o := ⟨some 181, .buildSlice 24 1 #[(0, .tmp 180)], 24, _, _, none⟩) rfl (fun K hK => ?_) AllReadyG.nil
        go_simp
        have hgL : (A2.alloc (.cells #[.bool false, .int .i64 H, .string X, .slice so s1 s2] 40)).heap[A2.heap.size]? = some (.cells (rc (false, H, X, so, s1, s2)) 40 (0, 0)) := heap_new _ _
        obtain ⟨A3, hU⟩ : ∃ V, V = World.alloc A2 (.cells #[.bool false, .int .i64 H, .string X, .slice so s1 s2] 40) := ⟨_, rfl⟩
        have kk : Kp [] A2 A3 := by rw [hU]; exact (Kp.refl _ _).alloc _
        rw [← hU] at hgL ⊢
        have KA3 : Hid (Kp [] w5 A3) := kt KA2.out kk
        have MM := MM.kept kk
        obtain ⟨gL, hgg⟩ : ∃ g, A2.heap.size = g := ⟨_, rfl⟩
        rw [hgg] at hgL ⊢
        clear hU hgg kk
        refine hK.out _ _ (CC.out _ KA3.out) (fun hHeld3 => ?_)
        clear hK K hHeld2
        try simp only [Act.put, pu1, pu2, pu3]
        refine wpAnyG_ready (rs := [11]) (by kernel_rfl) (by simp) ?_
        refine AllReadyG.cons (o := ⟨some 182, .call { callee := .builtin .append, args := #[.tmp 175, .tmp 181], argTypes := #[24, 24] }, 24, _, _, none⟩) rfl (fun K hK => ?_) AllReadyG.nil
        obtain ⟨a11, n11, c11, A4, run, MN, ⟨aa11, rfl⟩, hn, kk⟩ := MM.app ((lit_rs hgL).src) (fun h => by simp at h) (by have := HHL.out; have := HNT.out; have := HKL.out; omega)
        refine step_app2 (by rfl) _ _ 24 24 (by rfl) _ _ (by rfl) (by rfl) run ?_
        have KA4 : Hid (Kp [] w5 A4) := kt B0.out MN.2.1
        clear MM
        have MM := MN
        have HNY : Hid (n11 = n4 + 1) := hn
        clear run kk hn MN
        refine hK.out _ _ (CC.out _ KA4.out) (fun hHeld4 => ?_)
        clear hK K hHeld3
        try simp only [Act.put, pu1, pu2, pu3]
        refine wpAnyG_ready (rs := [15]) (by kernel_rfl) (by simp) ?_
        refine AllReadyG.cons (o := ⟨some 186, .call { callee := .builtin .append, args := #[.tmp 182, .tmp 185], argTypes := #[24, 24] }, 24, _, _, none⟩) rfl (fun K hK => ?_) AllReadyG.nil
        obtain ⟨a15, n15, c15, A5, run, MN, ⟨aa15, rfl⟩, hn, kk⟩ := MM.app (HSD.out _ KA4.out) (fun h => by simp at h) (by have := HHL.out; have := HNT.out; have := HNY.out; have := HKL.out; omega)
        refine step_app2 (by rfl) _ _ 24 24 (by rfl) _ _ (by rfl) (by rfl) run ?_
        have KA5 : Hid (Kp [] w5 A5) := kt B0.out MN.2.1
        clear MM
        have MM := MN
        have HND : Hid (n15 = n11 + (0)) := hn
        clear run kk hn MN
        refine hK.out _ _ (CC.out _ KA5.out) (fun hHeld5 => ?_)
        clear hK K hHeld4
        try simp only [Act.put, pu1, pu2, pu3]
        refine g_pure 16 (some 1) (.assign (.tmp 186)) ?_
        refine wpAnyG_free (by kernel_rfl) ?_
        refine wpAny_done (by kernel_rfl) ?_ _
        have HD := Hid.mk (HF.out _ _ _ _ (Ms.ahead B0.out MM))
        clear HF CC HST HSD KA0 KA1 KA2 KA3 KA4 KA5 MM B0 HNT HNY HND hl0 HKL hgL
        obtain ⟨rT, BT, lT, zT, oT, eT, bT⟩ := HD.out
        have HTl := tells_any w0 A5 q BT rT (zs.take (zs.length) ++ (false, H, X, A) :: zs.drop (zs.length)) (some aa15) n15 c15 7 H N I sa sn sc lT zT (by have := HHL.out; omega)
        obtain ⟨c0, c1, c2, c3, c4⟩ := HA.out _ eT
        have HFin : Hid (∀ V, Kp [] A5 V → Dn w0 q zs (.returned (.tuple #[.slice (some aa15) n15 c15, .bool true])) V) := fun V kV => ⟨_, _, _, rT, (zs.take (zs.length) ++ (false, H, X, A) :: zs.drop (zs.length)), BT, rfl, lT.kept kV, zT.kept kV, oT, kt (HK1.out _ eT) kV, bT⟩
        clear lT zT oT eT bT HA HK1 HD
        go_wp2_with fail
        refine HTl.mono ?_
        rintro e w8 ⟨rfl, k8⟩
        have HF8 := Hid.mk (HFin.out w8 k8)
        clear HTl HFin k8
        go_wp2
        go_ret2
        exact HF8.out
      refine AllReadyG.cons (o := ⟨some 181, .buildSlice 24 1 #[(0, .tmp 180)], 24, _, _, none⟩) rfl (fun K hK => ?_) AllReadyG.nil
      go_simp
      have hgL : (A1.alloc (.cells #[.bool false, .int .i64 H, .string X, .slice so s1 s2] 40)).heap[A1.heap.size]? = some (.cells (rc (false, H, X, so, s1, s2)) 40 (0, 0)) := heap_new _ _
      obtain ⟨A2, hU⟩ : ∃ V, V = World.alloc A1 (.cells #[.bool false, .int .i64 H, .string X, .slice so s1 s2] 40) := ⟨_, rfl⟩
      have kk : Kp [] A1 A2 := by rw [hU]; exact (Kp.refl _ _).alloc _
      rw [← hU] at hgL ⊢
      have KA2 : Hid (Kp [] w5 A2) := kt KA1.out kk
      have MM := MM.kept kk
      obtain ⟨gL, hgg⟩ : ∃ g, A1.heap.size = g := ⟨_, rfl⟩
      rw [hgg] at hgL ⊢
      have hne : gL ≠ g0 := by omega
      clear hU hgg kk
      refine hK.out _ _ (CC.out _ KA2.out) (fun hHeld2 => ?_)
      clear hK K hHeld1
      try simp only [Act.put, pu1, pu2, pu3]
      refine wpAnyG_ready (rs := [4]) (by kernel_rfl) (by simp) ?_
      refine AllReadyG.cons (o := ⟨some 175, .call { callee := .builtin .append, args := #[.tmp 171, .tmp 174], argTypes := #[24, 24] }, 24, _, _, none⟩) rfl (fun K hK => ?_) AllReadyG.nil
      obtain ⟨a4, n4, c4, A3, run, MN, ⟨aa4, rfl⟩, hn, kk⟩ := MM.app (HST.out _ KA2.out) (fun h => by simp at h) (by have := HHL.out; have := HKL.out; omega)
      refine step_app2 (by rfl) _ _ 24 24 (by rfl) _ _ (by rfl) (by rfl) run ?_
      have KA3 : Hid (Kp [] w5 A3) := kt B0.out MN.2.1
      clear MM
      have MM := MN
      have HNT : Hid (n4 = 0 + (zs.length)) := hn
      have hgL := (kk.block _ (lt_of hgL) (by simp [blk]; exact hne)).trans hgL
      clear run kk hn MN
      refine hK.out _ _ (CC.out _ KA3.out) (fun hHeld3 => ?_)
      clear hK K hHeld2
      try simp only [Act.put, pu1, pu2, pu3]
      refine wpAnyG_ready (rs := [11]) (by kernel_rfl) (by simp) ?_
      refine AllReadyG.cons (o := ⟨some 182, .call { callee := .builtin .append, args := #[.tmp 175, .tmp 181], argTypes := #[24, 24] }, 24, _, _, none⟩) rfl (fun K hK => ?_) AllReadyG.nil
      obtain ⟨a11, n11, c11, A4, run, MN, ⟨aa11, rfl⟩, hn, kk⟩ := MM.app ((lit_rs hgL).src) (fun h => by simp at h) (by have := HHL.out; have := HNT.out; have := HKL.out; omega)
      refine step_app2 (by rfl) _ _ 24 24 (by rfl) _ _ (by rfl) (by rfl) run ?_
      have KA4 : Hid (Kp [] w5 A4) := kt B0.out MN.2.1
      clear MM
      have MM := MN
      have HNY : Hid (n11 = n4 + 1) := hn
      clear run kk hn MN
      refine hK.out _ _ (CC.out _ KA4.out) (fun hHeld4 => ?_)
      clear hK K hHeld3
      try simp only [Act.put, pu1, pu2, pu3]
      refine wpAnyG_ready (rs := [15]) (by kernel_rfl) (by simp) ?_
      refine AllReadyG.cons (o := ⟨some 186, .call { callee := .builtin .append, args := #[.tmp 182, .tmp 185], argTypes := #[24, 24] }, 24, _, _, none⟩) rfl (fun K hK => ?_) AllReadyG.nil
      obtain ⟨a15, n15, c15, A5, run, MN, ⟨aa15, rfl⟩, hn, kk⟩ := MM.app (HSD.out _ KA4.out) (fun h => by simp at h) (by have := HHL.out; have := HNT.out; have := HNY.out; have := HKL.out; omega)
      refine step_app2 (by rfl) _ _ 24 24 (by rfl) _ _ (by rfl) (by rfl) run ?_
      have KA5 : Hid (Kp [] w5 A5) := kt B0.out MN.2.1
      clear MM
      have MM := MN
      have HND : Hid (n15 = n11 + (0)) := hn
      clear run kk hn MN
      refine hK.out _ _ (CC.out _ KA5.out) (fun hHeld5 => ?_)
      clear hK K hHeld4
      try simp only [Act.put, pu1, pu2, pu3]
      refine g_pure 16 (some 1) (.assign (.tmp 186)) ?_
      refine wpAnyG_free (by kernel_rfl) ?_
      refine wpAny_done (by kernel_rfl) ?_ _
      have HD := Hid.mk (HF.out _ _ _ _ (Ms.ahead B0.out MM))
      clear HF CC HST HSD KA0 KA1 KA2 KA3 KA4 KA5 MM B0 HNT HNY HND hl0 HKL hgL hne
      obtain ⟨rT, BT, lT, zT, oT, eT, bT⟩ := HD.out
      have HTl := tells_any w0 A5 q BT rT (zs.take (zs.length) ++ (false, H, X, A) :: zs.drop (zs.length)) (some aa15) n15 c15 7 H N I sa sn sc lT zT (by have := HHL.out; omega)
      obtain ⟨c0, c1, c2, c3, c4⟩ := HA.out _ eT
      have HFin : Hid (∀ V, Kp [] A5 V → Dn w0 q zs (.returned (.tuple #[.slice (some aa15) n15 c15, .bool true])) V) := fun V kV => ⟨_, _, _, rT, (zs.take (zs.length) ++ (false, H, X, A) :: zs.drop (zs.length)), BT, rfl, lT.kept kV, zT.kept kV, oT, kt (HK1.out _ eT) kV, bT⟩
      clear lT zT oT eT bT HA HK1 HD
      go_wp2_with fail
      refine HTl.mono ?_
      rintro e w8 ⟨rfl, k8⟩
      have HF8 := Hid.mk (HFin.out w8 k8)
      clear HTl HFin k8
      go_wp2
      go_ret2
      exact HF8.out
    refine AllReadyG.cons (o := ⟨some 181, .buildSlice 24 1 #[(0, .tmp 180)], 24, _, _, none⟩) rfl (fun K hK => ?_) AllReadyG.nil
    go_simp
    have hgL : (A0.alloc (.cells #[.bool false, .int .i64 H, .string X, .slice so s1 s2] 40)).heap[A0.heap.size]? = some (.cells (rc (false, H, X, so, s1, s2)) 40 (0, 0)) := heap_new _ _
    obtain ⟨A1, hU⟩ : ∃ V, V = World.alloc A0 (.cells #[.bool false, .int .i64 H, .string X, .slice so s1 s2] 40) := ⟨_, rfl⟩
    have kk : Kp [] A0 A1 := by rw [hU]; exact (Kp.refl _ _).alloc _
    rw [← hU] at hgL ⊢
    have KA1 : Hid (Kp [] w5 A1) := kt KA0.out kk
    obtain ⟨gL, hgg⟩ : ∃ g, A0.heap.size = g := ⟨_, rfl⟩
    rw [hgg] at hgL ⊢
    clear hU hgg kk
    refine hK.out _ _ (CC.out _ KA1.out) (fun hHeld1 => ?_)
    clear hK K hHeld
    try simp only [Act.put, pu1, pu2, pu3]
    refine wpAnyG_ready (rs := [0]) (by kernel_rfl) (by simp) ?_
    refine AllReadyG.cons (o := ⟨some 171, .buildSlice 24 0 #[], 24, _, _, none⟩) rfl (fun K hK => ?_) AllReadyG.nil
    go_simp
    have MM := Ms.empty A1
    have hl0 : A1.heap.size < (A1.alloc (.cells #[] 40)).heap.size := lt_of (heap_new A1 (.cells #[] 40))
    obtain ⟨A2, hU⟩ : ∃ V, V = World.alloc A1 (.cells #[] 40) := ⟨_, rfl⟩
    rw [← hU] at MM hl0 ⊢
    have KA2 : Hid (Kp [] w5 A2) := kt KA1.out MM.2.1
    have B0 : Hid (Kp [] w5 A1) := KA1
    have hlL := lt_of hgL
    have hgL := (MM.2.1.block _ (lt_of hgL) (by simp)).trans hgL
    obtain ⟨g0, hg0⟩ : ∃ g, A1.heap.size = g := ⟨_, rfl⟩
    rw [hg0] at MM hl0 ⊢
    have hne : gL ≠ g0 := by omega
    clear hlL
    clear hU hg0
    refine hK.out _ _ (CC.out _ KA2.out) (fun hHeld2 => ?_)
    clear hK K hHeld1
    try simp only [Act.put, pu1, pu2, pu3]
    refine wpAnyG_ready (rs := [4]) (by kernel_rfl) (by simp) ?_
    refine AllReadyG.cons (o := ⟨some 175, .call { callee := .builtin .append, args := #[.tmp 171, .tmp 174], argTypes := #[24, 24] }, 24, _, _, none⟩) rfl (fun K hK => ?_) AllReadyG.nil
    obtain ⟨a4, n4, c4, A3, run, MN, ⟨aa4, rfl⟩, hn, kk⟩ := MM.app (HST.out _ KA2.out) (fun h => by simp at h) (by have := HHL.out; have := HKL.out; omega)
    refine step_app2 (by rfl) _ _ 24 24 (by rfl) _ _ (by rfl) (by rfl) run ?_
    have KA3 : Hid (Kp [] w5 A3) := kt B0.out MN.2.1
    clear MM
    have MM := MN
    have HNT : Hid (n4 = 0 + (zs.length)) := hn
    have hgL := (kk.block _ (lt_of hgL) (by simp [blk]; exact hne)).trans hgL
    clear run kk hn MN
    refine hK.out _ _ (CC.out _ KA3.out) (fun hHeld3 => ?_)
    clear hK K hHeld2
    try simp only [Act.put, pu1, pu2, pu3]
    refine wpAnyG_ready (rs := [11]) (by kernel_rfl) (by simp) ?_
    refine AllReadyG.cons (o := ⟨some 182, .call { callee := .builtin .append, args := #[.tmp 175, .tmp 181], argTypes := #[24, 24] }, 24, _, _, none⟩) rfl (fun K hK => ?_) AllReadyG.nil
    obtain ⟨a11, n11, c11, A4, run, MN, ⟨aa11, rfl⟩, hn, kk⟩ := MM.app ((lit_rs hgL).src) (fun h => by simp at h) (by have := HHL.out; have := HNT.out; have := HKL.out; omega)
    refine step_app2 (by rfl) _ _ 24 24 (by rfl) _ _ (by rfl) (by rfl) run ?_
    have KA4 : Hid (Kp [] w5 A4) := kt B0.out MN.2.1
    clear MM
    have MM := MN
    have HNY : Hid (n11 = n4 + 1) := hn
    clear run kk hn MN
    refine hK.out _ _ (CC.out _ KA4.out) (fun hHeld4 => ?_)
    clear hK K hHeld3
    try simp only [Act.put, pu1, pu2, pu3]
    refine wpAnyG_ready (rs := [15]) (by kernel_rfl) (by simp) ?_
    refine AllReadyG.cons (o := ⟨some 186, .call { callee := .builtin .append, args := #[.tmp 182, .tmp 185], argTypes := #[24, 24] }, 24, _, _, none⟩) rfl (fun K hK => ?_) AllReadyG.nil
    obtain ⟨a15, n15, c15, A5, run, MN, ⟨aa15, rfl⟩, hn, kk⟩ := MM.app (HSD.out _ KA4.out) (fun h => by simp at h) (by have := HHL.out; have := HNT.out; have := HNY.out; have := HKL.out; omega)
    refine step_app2 (by rfl) _ _ 24 24 (by rfl) _ _ (by rfl) (by rfl) run ?_
    have KA5 : Hid (Kp [] w5 A5) := kt B0.out MN.2.1
    clear MM
    have MM := MN
    have HND : Hid (n15 = n11 + (0)) := hn
    clear run kk hn MN
    refine hK.out _ _ (CC.out _ KA5.out) (fun hHeld5 => ?_)
    clear hK K hHeld4
    try simp only [Act.put, pu1, pu2, pu3]
    refine g_pure 16 (some 1) (.assign (.tmp 186)) ?_
    refine wpAnyG_free (by kernel_rfl) ?_
    refine wpAny_done (by kernel_rfl) ?_ _
    have HD := Hid.mk (HF.out _ _ _ _ (Ms.ahead B0.out MM))
    clear HF CC HST HSD KA0 KA1 KA2 KA3 KA4 KA5 MM B0 HNT HNY HND hl0 HKL hgL hne
    obtain ⟨rT, BT, lT, zT, oT, eT, bT⟩ := HD.out
    have HTl := tells_any w0 A5 q BT rT (zs.take (zs.length) ++ (false, H, X, A) :: zs.drop (zs.length)) (some aa15) n15 c15 7 H N I sa sn sc lT zT (by have := HHL.out; omega)
    obtain ⟨c0, c1, c2, c3, c4⟩ := HA.out _ eT
    have HFin : Hid (∀ V, Kp [] A5 V → Dn w0 q zs (.returned (.tuple #[.slice (some aa15) n15 c15, .bool true])) V) := fun V kV => ⟨_, _, _, rT, (zs.take (zs.length) ++ (false, H, X, A) :: zs.drop (zs.length)), BT, rfl, lT.kept kV, zT.kept kV, oT, kt (HK1.out _ eT) kV, bT⟩
    clear lT zT oT eT bT HA HK1 HD
    go_wp2_with fail
    refine HTl.mono ?_
    rintro e w8 ⟨rfl, k8⟩
    have HF8 := Hid.mk (HFin.out w8 k8)
    clear HTl HFin k8
    go_wp2
    go_ret2
    exact HF8.out
  · subst hI
    have q0 : decide ((k : Int) < 0) = false := decide_eq_false (by omega)
    have q8 : decide ((zs.length : Int) < (k : Int)) = false := decide_eq_false (by omega)
    have hcl : clp zs.length (k : Int) = k := by unfold clp; omega
    have HF : Hid (∀ W ao n' c', Ms w5 W ao n' c' ([] ++ rl.take (k) ++ [((false, H, X, so, s1, s2) : Raw)] ++ rl.drop (k)) → Dt w0 w1 q B (zs.length + 1) W (zs.take (k) ++ (false, H, X, A) :: zs.drop (k)) ao n' c') := fun W ao n' c' M => Dt.made (by
      have h9 := l5
      unfold ins at h9
      rw [hcl] at h9
      exact h9) ⟨_, M, by
      have h1 := (((z5.sm.kept M.2.1).take (k)).append' (Sms.one (s5.kept M.2.1))).append' ((z5.sm.kept M.2.1).drop (k))
      simpa using h1⟩ M.2.1 e5 (by first | (simp; omega) | simp)
    obtain ⟨ko, hko⟩ : ∃ q, (if d = k then (some ⟨bb, of, none⟩ : Option Addr) else some ⟨bb, of + k * 4, none⟩) = q := ⟨_, rfl⟩
    have q1 : (0 : Int) ≤ (k : Int) := by omega
    have q2 : (k : Int) ≤ (d : Int) := by omega
    have q3 : (k : Int) ≤ (zs.length : Int) := by omega
    have q6 : (zs.length : Int) ≤ (d : Int) := by omega
    have HST : Hid (∀ W, Kp [] w5 W → Src Try.prog 4 24 (.slice (some ⟨bb, of, none⟩) k d) (k) (cz (rl.take (k))) W) := fun W kW => ((z5.rs.kept kW).take k (by omega)).src
    have HSD : Hid (∀ W, Kp [] w5 W → Src Try.prog 4 24 (.slice ko (zs.length - k) (d - k)) (zs.length - k) (cz (rl.drop (k))) W) := fun W kW => ((z5.rs.kept kW).drop k (by omega) ko hko.symm).src
    have HKL : Hid ((k : Nat) ≤ zs.length) := by have := hcap; have h9 := clp_le zs.length (k : Int); rw [hcl] at h9; exact h9
    clear hcl l5 e5 z5 s5
    go_upto_region 40 with fail
    obtain ⟨A0, hA0⟩ : ∃ V, V = w5.drew := ⟨_, rfl⟩
    have KA0 : Hid (Kp [] w5 A0) := by rw [hA0]; exact (Kp.refl _ _).drew
    refine wp_region_g (S := fun V => V.cell? ⟨ga, 1, none⟩ = some (.int .i64 H)) (T := []) (by kernel_rfl) (CC.out _ (Kp.refl [] w5).drew) (fun hHeld => ?_)
    rw [← hA0] at hHeld ⊢
    clear hA0
    refine g_pure 1 (some 172) (.move (.tmp 1)) ?_
    refine g_pure 2 (some 173) (.move (.tmp 16)) ?_
    refine g_pure 3 (some 174) (.slice 24 (.tmp 172) none (some (.tmp 173)) none) ?_
    refine g_pure 5 (some 176) (.fieldAddr 29 (.tmp 5) 1) ?_
    refine g_take 6 (some 177) (.load 3 (.tmp 176)) (by intro w hSw; (have u0 := hSw); go_simp; try with_reducible rfl) ?_
    refine g_pure 7 (some 178) (.move (.tmp 8)) ?_
    refine g_pure 8 (some 179) (.move (.tmp 9)) ?_
    refine g_pure 9 (some 180) (.build 40 #[(1, .tmp 177), (2, .tmp 178), (3, .tmp 179)]) ?_
    refine g_pure 12 (some 183) (.move (.tmp 1)) ?_
    refine g_pure 13 (some 184) (.move (.tmp 16)) ?_
    refine g_pure 14 (some 185) (.slice 24 (.tmp 183) (some (.tmp 184)) none none) ?_
    refine wpAnyG_ready (rs := [0, 10]) (by kernel_rfl) (by simp) ?_
    refine AllReadyG.cons (o := ⟨some 171, .buildSlice 24 0 #[], 24, _, _, none⟩) rfl (fun K hK => ?_) ?_
    · go_simp
      have MM := Ms.empty A0
      have hl0 : A0.heap.size < (A0.alloc (.cells #[] 40)).heap.size := lt_of (heap_new A0 (.cells #[] 40))
      obtain ⟨A1, hU⟩ : ∃ V, V = World.alloc A0 (.cells #[] 40) := ⟨_, rfl⟩
      rw [← hU] at MM hl0 ⊢
      have KA1 : Hid (Kp [] w5 A1) := kt KA0.out MM.2.1
      have B0 : Hid (Kp [] w5 A0) := KA0
      obtain ⟨g0, hg0⟩ : ∃ g, A0.heap.size = g := ⟨_, rfl⟩
      rw [hg0] at MM hl0 ⊢
      clear hU hg0
      refine hK.out _ _ (CC.out _ KA1.out) (fun hHeld1 => ?_)
      clear hK K hHeld
      try simp only [Act.put, pu1, pu2, pu3]
      refine wpAnyG_ready (rs := [4, 10]) (by kernel_rfl) (by simp) ?_
      refine AllReadyG.cons (o := ⟨some 175, .call { callee := .builtin .append, args := #[.tmp 171, .tmp 174], argTypes := #[24, 24] }, 24, _, _, none⟩) rfl (fun K hK => ?_) ?_
      · obtain ⟨a4, n4, c4, A2, run, MN, ⟨aa4, rfl⟩, hn, kk⟩ := MM.app (HST.out _ KA1.out) (fun h => by simp at h) (by have := HHL.out; have := HKL.out; omega)
        refine step_app2 (by rfl) _ _ 24 24 (by rfl) _ _ (by rfl) (by rfl) run ?_
        have KA2 : Hid (Kp [] w5 A2) := kt B0.out MN.2.1
        clear MM
        have MM := MN
        have HNT : Hid (n4 = 0 + (k)) := hn
        clear run kk hn MN
        refine hK.out _ _ (CC.out _ KA2.out) (fun hHeld2 => ?_)
        clear hK K hHeld1
        try simp only [Act.put, pu1, pu2, pu3]
        refine wpAnyG_ready (rs := [10]) (by kernel_rfl) (by simp) ?_
        refine AllReadyG.cons (o := ⟨some 181, .buildSlice 24 1 #[(0, .tmp 180)], 24, _, _, none⟩) rfl (fun K hK => ?_) AllReadyG.nil
        go_simp
        have hgL : (A2.alloc (.cells #[.bool false, .int .i64 H, .string X, .slice so s1 s2] 40)).heap[A2.heap.size]? = some (.cells (rc (false, H, X, so, s1, s2)) 40 (0, 0)) := heap_new _ _
        obtain ⟨A3, hU⟩ : ∃ V, V = World.alloc A2 (.cells #[.bool false, .int .i64 H, .string X, .slice so s1 s2] 40) := ⟨_, rfl⟩
        have kk : Kp [] A2 A3 := by rw [hU]; exact (Kp.refl _ _).alloc _
        rw [← hU] at hgL ⊢
        have KA3 : Hid (Kp [] w5 A3) := kt KA2.out kk
        have MM := MM.kept kk
        obtain ⟨gL, hgg⟩ : ∃ g, A2.heap.size = g := ⟨_, rfl⟩
        rw [hgg] at hgL ⊢
        clear hU hgg kk
        refine hK.out _ _ (CC.out _ KA3.out) (fun hHeld3 => ?_)
        clear hK K hHeld2
        try simp only [Act.put, pu1, pu2, pu3]
        refine wpAnyG_ready (rs := [11]) (by kernel_rfl) (by simp) ?_
        refine AllReadyG.cons (o := ⟨some 182, .call { callee := .builtin .append, args := #[.tmp 175, .tmp 181], argTypes := #[24, 24] }, 24, _, _, none⟩) rfl (fun K hK => ?_) AllReadyG.nil
        obtain ⟨a11, n11, c11, A4, run, MN, ⟨aa11, rfl⟩, hn, kk⟩ := MM.app ((lit_rs hgL).src) (fun h => by simp at h) (by have := HHL.out; have := HNT.out; have := HKL.out; omega)
        refine step_app2 (by rfl) _ _ 24 24 (by rfl) _ _ (by rfl) (by rfl) run ?_
        have KA4 : Hid (Kp [] w5 A4) := kt B0.out MN.2.1
        clear MM
        have MM := MN
        have HNY : Hid (n11 = n4 + 1) := hn
        clear run kk hn MN
        refine hK.out _ _ (CC.out _ KA4.out) (fun hHeld4 => ?_)
        clear hK K hHeld3
        try simp only [Act.put, pu1, pu2, pu3]
        refine wpAnyG_ready (rs := [15]) (by kernel_rfl) (by simp) ?_
        refine AllReadyG.cons (o := ⟨some 186, .call { callee := .builtin .append, args := #[.tmp 182, .tmp 185], argTypes := #[24, 24] }, 24, _, _, none⟩) rfl (fun K hK => ?_) AllReadyG.nil
        obtain ⟨a15, n15, c15, A5, run, MN, ⟨aa15, rfl⟩, hn, kk⟩ := MM.app (HSD.out _ KA4.out) (fun h => by simp at h) (by have := HHL.out; have := HNT.out; have := HNY.out; have := HKL.out; omega)
        refine step_app2 (by rfl) _ _ 24 24 (by rfl) _ _ (by rfl) (by rfl) run ?_
        have KA5 : Hid (Kp [] w5 A5) := kt B0.out MN.2.1
        clear MM
        have MM := MN
        have HND : Hid (n15 = n11 + (zs.length - k)) := hn
        clear run kk hn MN
        refine hK.out _ _ (CC.out _ KA5.out) (fun hHeld5 => ?_)
        clear hK K hHeld4
        try simp only [Act.put, pu1, pu2, pu3]
        refine g_pure 16 (some 1) (.assign (.tmp 186)) ?_
        refine wpAnyG_free (by kernel_rfl) ?_
        refine wpAny_done (by kernel_rfl) ?_ _
        have HD := Hid.mk (HF.out _ _ _ _ (Ms.ahead B0.out MM))
        clear HF CC HST HSD KA0 KA1 KA2 KA3 KA4 KA5 MM B0 HNT HNY HND hl0 HKL hgL
        obtain ⟨rT, BT, lT, zT, oT, eT, bT⟩ := HD.out
        have HTl := tells_any w0 A5 q BT rT (zs.take (k) ++ (false, H, X, A) :: zs.drop (k)) (some aa15) n15 c15 7 H N (k : Int) sa sn sc lT zT (by have := HHL.out; omega)
        obtain ⟨c0, c1, c2, c3, c4⟩ := HA.out _ eT
        have HFin : Hid (∀ V, Kp [] A5 V → Dn w0 q zs (.returned (.tuple #[.slice (some aa15) n15 c15, .bool true])) V) := fun V kV => ⟨_, _, _, rT, (zs.take (k) ++ (false, H, X, A) :: zs.drop (k)), BT, rfl, lT.kept kV, zT.kept kV, oT, kt (HK1.out _ eT) kV, bT⟩
        clear lT zT oT eT bT HA HK1 HD
        go_wp2_with fail
        refine HTl.mono ?_
        rintro e w8 ⟨rfl, k8⟩
        have HF8 := Hid.mk (HFin.out w8 k8)
        clear HTl HFin k8
        go_wp2
        go_ret2
        exact HF8.out
      refine AllReadyG.cons (o := ⟨some 181, .buildSlice 24 1 #[(0, .tmp 180)], 24, _, _, none⟩) rfl (fun K hK => ?_) AllReadyG.nil
      go_simp
      have hgL : (A1.alloc (.cells #[.bool false, .int .i64 H, .string X, .slice so s1 s2] 40)).heap[A1.heap.size]? = some (.cells (rc (false, H, X, so, s1, s2)) 40 (0, 0)) := heap_new _ _
      obtain ⟨A2, hU⟩ : ∃ V, V = World.alloc A1 (.cells #[.bool false, .int .i64 H, .string X, .slice so s1 s2] 40) := ⟨_, rfl⟩
      have kk : Kp [] A1 A2 := by rw [hU]; exact (Kp.refl _ _).alloc _
      rw [← hU] at hgL ⊢
      have KA2 : Hid (Kp [] w5 A2) := kt KA1.out kk
      have MM := MM.kept kk
      obtain ⟨gL, hgg⟩ : ∃ g, A1.heap.size = g := ⟨_, rfl⟩
      rw [hgg] at hgL ⊢
      have hne : gL ≠ g0 := by omega
      clear hU hgg kk
      refine hK.out _ _ (CC.out _ KA2.out) (fun hHeld2 => ?_)
      clear hK K hHeld1
      try simp only [Act.put, pu1, pu2, pu3]
      refine wpAnyG_ready (rs := [4]) (by kernel_rfl) (by simp) ?_
      refine AllReadyG.cons (o := ⟨some 175, .call { callee := .builtin .append, args := #[.tmp 171, .tmp 174], argTypes := #[24, 24] }, 24, _, _, none⟩) rfl (fun K hK => ?_) AllReadyG.nil
      obtain ⟨a4, n4, c4, A3, run, MN, ⟨aa4, rfl⟩, hn, kk⟩ := MM.app (HST.out _ KA2.out) (fun h => by simp at h) (by have := HHL.out; have := HKL.out; omega)
      refine step_app2 (by rfl) _ _ 24 24 (by rfl) _ _ (by rfl) (by rfl) run ?_
      have KA3 : Hid (Kp [] w5 A3) := kt B0.out MN.2.1
      clear MM
      have MM := MN
      have HNT : Hid (n4 = 0 + (k)) := hn
      have hgL := (kk.block _ (lt_of hgL) (by simp [blk]; exact hne)).trans hgL
      clear run kk hn MN
      refine hK.out _ _ (CC.out _ KA3.out) (fun hHeld3 => ?_)
      clear hK K hHeld2
      try simp only [Act.put, pu1, pu2, pu3]
      refine wpAnyG_ready (rs := [11]) (by kernel_rfl) (by simp) ?_
      refine AllReadyG.cons (o := ⟨some 182, .call { callee := .builtin .append, args := #[.tmp 175, .tmp 181], argTypes := #[24, 24] }, 24, _, _, none⟩) rfl (fun K hK => ?_) AllReadyG.nil
      obtain ⟨a11, n11, c11, A4, run, MN, ⟨aa11, rfl⟩, hn, kk⟩ := MM.app ((lit_rs hgL).src) (fun h => by simp at h) (by have := HHL.out; have := HNT.out; have := HKL.out; omega)
      refine step_app2 (by rfl) _ _ 24 24 (by rfl) _ _ (by rfl) (by rfl) run ?_
      have KA4 : Hid (Kp [] w5 A4) := kt B0.out MN.2.1
      clear MM
      have MM := MN
      have HNY : Hid (n11 = n4 + 1) := hn
      clear run kk hn MN
      refine hK.out _ _ (CC.out _ KA4.out) (fun hHeld4 => ?_)
      clear hK K hHeld3
      try simp only [Act.put, pu1, pu2, pu3]
      refine wpAnyG_ready (rs := [15]) (by kernel_rfl) (by simp) ?_
      refine AllReadyG.cons (o := ⟨some 186, .call { callee := .builtin .append, args := #[.tmp 182, .tmp 185], argTypes := #[24, 24] }, 24, _, _, none⟩) rfl (fun K hK => ?_) AllReadyG.nil
      obtain ⟨a15, n15, c15, A5, run, MN, ⟨aa15, rfl⟩, hn, kk⟩ := MM.app (HSD.out _ KA4.out) (fun h => by simp at h) (by have := HHL.out; have := HNT.out; have := HNY.out; have := HKL.out; omega)
      refine step_app2 (by rfl) _ _ 24 24 (by rfl) _ _ (by rfl) (by rfl) run ?_
      have KA5 : Hid (Kp [] w5 A5) := kt B0.out MN.2.1
      clear MM
      have MM := MN
      have HND : Hid (n15 = n11 + (zs.length - k)) := hn
      clear run kk hn MN
      refine hK.out _ _ (CC.out _ KA5.out) (fun hHeld5 => ?_)
      clear hK K hHeld4
      try simp only [Act.put, pu1, pu2, pu3]
      refine g_pure 16 (some 1) (.assign (.tmp 186)) ?_
      refine wpAnyG_free (by kernel_rfl) ?_
      refine wpAny_done (by kernel_rfl) ?_ _
      have HD := Hid.mk (HF.out _ _ _ _ (Ms.ahead B0.out MM))
      clear HF CC HST HSD KA0 KA1 KA2 KA3 KA4 KA5 MM B0 HNT HNY HND hl0 HKL hgL hne
      obtain ⟨rT, BT, lT, zT, oT, eT, bT⟩ := HD.out
      have HTl := tells_any w0 A5 q BT rT (zs.take (k) ++ (false, H, X, A) :: zs.drop (k)) (some aa15) n15 c15 7 H N (k : Int) sa sn sc lT zT (by have := HHL.out; omega)
      obtain ⟨c0, c1, c2, c3, c4⟩ := HA.out _ eT
      have HFin : Hid (∀ V, Kp [] A5 V → Dn w0 q zs (.returned (.tuple #[.slice (some aa15) n15 c15, .bool true])) V) := fun V kV => ⟨_, _, _, rT, (zs.take (k) ++ (false, H, X, A) :: zs.drop (k)), BT, rfl, lT.kept kV, zT.kept kV, oT, kt (HK1.out _ eT) kV, bT⟩
      clear lT zT oT eT bT HA HK1 HD
      go_wp2_with fail
      refine HTl.mono ?_
      rintro e w8 ⟨rfl, k8⟩
      have HF8 := Hid.mk (HFin.out w8 k8)
      clear HTl HFin k8
      go_wp2
      go_ret2
      exact HF8.out
    refine AllReadyG.cons (o := ⟨some 181, .buildSlice 24 1 #[(0, .tmp 180)], 24, _, _, none⟩) rfl (fun K hK => ?_) AllReadyG.nil
    go_simp
    have hgL : (A0.alloc (.cells #[.bool false, .int .i64 H, .string X, .slice so s1 s2] 40)).heap[A0.heap.size]? = some (.cells (rc (false, H, X, so, s1, s2)) 40 (0, 0)) := heap_new _ _
    obtain ⟨A1, hU⟩ : ∃ V, V = World.alloc A0 (.cells #[.bool false, .int .i64 H, .string X, .slice so s1 s2] 40) := ⟨_, rfl⟩
    have kk : Kp [] A0 A1 := by rw [hU]; exact (Kp.refl _ _).alloc _
    rw [← hU] at hgL ⊢
    have KA1 : Hid (Kp [] w5 A1) := kt KA0.out kk
    obtain ⟨gL, hgg⟩ : ∃ g, A0.heap.size = g := ⟨_, rfl⟩
    rw [hgg] at hgL ⊢
    clear hU hgg kk
    refine hK.out _ _ (CC.out _ KA1.out) (fun hHeld1 => ?_)
    clear hK K hHeld
    try simp only [Act.put, pu1, pu2, pu3]
    refine wpAnyG_ready (rs := [0]) (by kernel_rfl) (by simp) ?_
    refine AllReadyG.cons (o := ⟨some 171, .buildSlice 24 0 #[], 24, _, _, none⟩) rfl (fun K hK => ?_) AllReadyG.nil
    go_simp
    have MM := Ms.empty A1
    have hl0 : A1.heap.size < (A1.alloc (.cells #[] 40)).heap.size := lt_of (heap_new A1 (.cells #[] 40))
    obtain ⟨A2, hU⟩ : ∃ V, V = World.alloc A1 (.cells #[] 40) := ⟨_, rfl⟩
    rw [← hU] at MM hl0 ⊢
    have KA2 : Hid (Kp [] w5 A2) := kt KA1.out MM.2.1
    have B0 : Hid (Kp [] w5 A1) := KA1
    have hlL := lt_of hgL
    have hgL := (MM.2.1.block _ (lt_of hgL) (by simp)).trans hgL
    obtain ⟨g0, hg0⟩ : ∃ g, A1.heap.size = g := ⟨_, rfl⟩
    rw [hg0] at MM hl0 ⊢
    have hne : gL ≠ g0 := by omega
    clear hlL
    clear hU hg0
    refine hK.out _ _ (CC.out _ KA2.out) (fun hHeld2 => ?_)
    clear hK K hHeld1
    try simp only [Act.put, pu1, pu2, pu3]
    refine wpAnyG_ready (rs := [4]) (by kernel_rfl) (by simp) ?_
    refine AllReadyG.cons (o := ⟨some 175, .call { callee := .builtin .append, args := #[.tmp 171, .tmp 174], argTypes := #[24, 24] }, 24, _, _, none⟩) rfl (fun K hK => ?_) AllReadyG.nil
    obtain ⟨a4, n4, c4, A3, run, MN, ⟨aa4, rfl⟩, hn, kk⟩ := MM.app (HST.out _ KA2.out) (fun h => by simp at h) (by have := HHL.out; have := HKL.out; omega)
    refine step_app2 (by rfl) _ _ 24 24 (by rfl) _ _ (by rfl) (by rfl) run ?_
    have KA3 : Hid (Kp [] w5 A3) := kt B0.out MN.2.1
    clear MM
    have MM := MN
    have HNT : Hid (n4 = 0 + (k)) := hn
    have hgL := (kk.block _ (lt_of hgL) (by simp [blk]; exact hne)).trans hgL
    clear run kk hn MN
    refine hK.out _ _ (CC.out _ KA3.out) (fun hHeld3 => ?_)
    clear hK K hHeld2
    try simp only [Act.put, pu1, pu2, pu3]
    refine wpAnyG_ready (rs := [11]) (by kernel_rfl) (by simp) ?_
    refine AllReadyG.cons (o := ⟨some 182, .call { callee := .builtin .append, args := #[.tmp 175, .tmp 181], argTypes := #[24, 24] }, 24, _, _, none⟩) rfl (fun K hK => ?_) AllReadyG.nil
    obtain ⟨a11, n11, c11, A4, run, MN, ⟨aa11, rfl⟩, hn, kk⟩ := MM.app ((lit_rs hgL).src) (fun h => by simp at h) (by have := HHL.out; have := HNT.out; have := HKL.out; omega)
    refine step_app2 (by rfl) _ _ 24 24 (by rfl) _ _ (by rfl) (by rfl) run ?_
    have KA4 : Hid (Kp [] w5 A4) := kt B0.out MN.2.1
    clear MM
    have MM := MN
    have HNY : Hid (n11 = n4 + 1) := hn
    clear run kk hn MN
    refine hK.out _ _ (CC.out _ KA4.out) (fun hHeld4 => ?_)
    clear hK K hHeld3
    try simp only [Act.put, pu1, pu2, pu3]
    refine wpAnyG_ready (rs := [15]) (by kernel_rfl) (by simp) ?_
    refine AllReadyG.cons (o := ⟨some 186, .call { callee := .builtin .append, args := #[.tmp 182, .tmp 185], argTypes := #[24, 24] }, 24, _, _, none⟩) rfl (fun K hK => ?_) AllReadyG.nil
    obtain ⟨a15, n15, c15, A5, run, MN, ⟨aa15, rfl⟩, hn, kk⟩ := MM.app (HSD.out _ KA4.out) (fun h => by simp at h) (by have := HHL.out; have := HNT.out; have := HNY.out; have := HKL.out; omega)
    refine step_app2 (by rfl) _ _ 24 24 (by rfl) _ _ (by rfl) (by rfl) run ?_
    have KA5 : Hid (Kp [] w5 A5) := kt B0.out MN.2.1
    clear MM
    have MM := MN
    have HND : Hid (n15 = n11 + (zs.length - k)) := hn
    clear run kk hn MN
    refine hK.out _ _ (CC.out _ KA5.out) (fun hHeld5 => ?_)
    clear hK K hHeld4
    try simp only [Act.put, pu1, pu2, pu3]
    refine g_pure 16 (some 1) (.assign (.tmp 186)) ?_
    refine wpAnyG_free (by kernel_rfl) ?_
    refine wpAny_done (by kernel_rfl) ?_ _
    have HD := Hid.mk (HF.out _ _ _ _ (Ms.ahead B0.out MM))
    clear HF CC HST HSD KA0 KA1 KA2 KA3 KA4 KA5 MM B0 HNT HNY HND hl0 HKL hgL hne
    obtain ⟨rT, BT, lT, zT, oT, eT, bT⟩ := HD.out
    have HTl := tells_any w0 A5 q BT rT (zs.take (k) ++ (false, H, X, A) :: zs.drop (k)) (some aa15) n15 c15 7 H N (k : Int) sa sn sc lT zT (by have := HHL.out; omega)
    obtain ⟨c0, c1, c2, c3, c4⟩ := HA.out _ eT
    have HFin : Hid (∀ V, Kp [] A5 V → Dn w0 q zs (.returned (.tuple #[.slice (some aa15) n15 c15, .bool true])) V) := fun V kV => ⟨_, _, _, rT, (zs.take (k) ++ (false, H, X, A) :: zs.drop (k)), BT, rfl, lT.kept kV, zT.kept kV, oT, kt (HK1.out _ eT) kV, bT⟩
    clear lT zT oT eT bT HA HK1 HD
    go_wp2_with fail
    refine HTl.mono ?_
    rintro e w8 ⟨rfl, k8⟩
    have HF8 := Hid.mk (HFin.out w8 k8)
    clear HTl HFin k8
    go_wp2
    go_ret2
    exact HF8.out
end Go.Proofs.Ytadcpkdnpfmphaa.Ints
