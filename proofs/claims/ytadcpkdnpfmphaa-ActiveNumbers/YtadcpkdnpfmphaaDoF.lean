/-
  do of the laws: kind 5 (0: any other).
-/
import Derived.Test.YtadcpkdnpfmphaaDn
namespace Go.Proofs.Ytadcpkdnpfmphaa.Ints
open Go.RowKit
set_option linter.unusedSimpArgs false
set_option linter.unusedVariables false

set_option maxRecDepth 100000 in
set_option maxHeartbeats 8000000 in
theorem do_5 (w0 w : World) (q : Nat) (B : List Nat) (rl : List Raw) (zs : List Ent) (bo : Option Addr) (n d : Nat) (H N I : Int) (sa : Option Addr) (sn sc : Nat) (al : List Att) (hL : Li w0 w q B zs) (hz : Ls w bo n d rl zs) (ho : Off B bo) (hk : Kp [] w0 w) (hat : Rp w sa sn sc al) (hsn : sn ≤ 140737488355328) (hl : zs.length < 900) :
    Calls Try.prog 8 #[.pointer (some ⟨q, 0, none⟩), .slice bo n d, .agg #[.int .i64 5, .int .i64 H, .int .i64 N, .int .i64 I, .slice sa sn sc]] w (Dn w0 q zs) := by
  obtain rfl : n = zs.length := hz.len
  have hcap := hz.rs.cap
  obtain ⟨w1, hw1⟩ : ∃ w1, w1 = w.alloc (.cells #[.int .i64 5, .int .i64 H, .int .i64 N, .int .i64 I, .slice sa sn sc] 29) := ⟨_, rfl⟩
  have k1 : Kp [] w w1 := by rw [hw1]; exact (Kp.refl _ _).alloc _
  have hb1 : w1.heap[w.heap.size]? = some (.cells #[.int .i64 5, .int .i64 H, .int .i64 N, .int .i64 I, .slice sa sn sc] 29 (0, 0)) := by rw [hw1]; exact heap_new _ _
  obtain ⟨ga, hga⟩ : ∃ g, g = w.heap.size := ⟨_, rfl⟩
  rw [← hga] at hb1
  have HA : Hid (∀ W, Ev w0 B w1 W → W.cell? ⟨ga, 0, none⟩ = some (.int .i64 5) ∧ W.cell? ⟨ga, 1, none⟩ = some (.int .i64 H) ∧ W.cell? ⟨ga, 2, none⟩ = some (.int .i64 N) ∧ W.cell? ⟨ga, 3, none⟩ = some (.int .i64 I) ∧ W.cell? ⟨ga, 4, none⟩ = some (.slice sa sn sc)) := fun W e => by
    have h2 := e.cells _ _ _ hb1 not_pil_ask (fun e => absurd e ask_item)
    exact ⟨cell_of h2 0, cell_of h2 1, cell_of h2 2, cell_of h2 3, cell_of h2 4⟩
  have HK1 : Hid (∀ W, Ev w0 B w1 W → Kp [] w0 W) := fun W e => e.kp (kt hk k1)
  have l1 := hL.kept k1
  have z1 := hz.kept k1
  have a1 := hat.kept k1
  have HHL : Hid (zs.length < 900) := hl
  have HNx := names_any w1 N
  obtain ⟨X, hX⟩ : ∃ X, nm N = X := ⟨_, rfl⟩
  rw [hX] at HNx
  have HSh : Hid (∀ W, Kp [] w1 W → Calls Try.prog 14 #[.slice sa sn sc] W fun e w' => ∃ ao' n' c', e = .returned (.slice ao' n' c') ∧ Mp W w' ao' n' c' (short al)) := fun W kW => short_any W al sa sn sc (a1.kept kW) hsn
  obtain ⟨A, hAl⟩ : ∃ A, short al = A := ⟨_, rfl⟩
  have hA6 : A.length ≤ 6 := by rw [← hAl]; exact short_len al
  have hAf : fits A := by rw [← hAl]; exact short_fits al
  rw [hAl] at HSh
  have HAL : Hid (A.length ≤ 6 ∧ fits A) := ⟨hA6, hAf⟩
  have HPl : Hid (∀ W, Kp [] w1 W → Calls Try.prog 25 #[.slice bo zs.length d, .int .i64 H] W fun e w' => e = .returned (.int .i64 (plc2 H zs)) ∧ w' = W) := fun W kW => lplace_any W rl zs H bo zs.length d (z1.kept kW) (by omega)
  have HPr : Hid (-1 ≤ plc2 H zs ∧ plc2 H zs < zs.length) := plc2_range H zs
  have HLi : Hid (∀ W, Kp [] w1 W → Li w0 W q B zs) := fun W kW => l1.kept kW
  have HLs : Hid (∀ W, Kp [] w1 W → Ls W bo zs.length d rl zs) := fun W kW => z1.kept kW
  have HOf : Hid (Off B bo) := ho
  obtain ⟨PK, hPK⟩ : ∃ k, plc2 H zs = k := ⟨_, rfl⟩
  rw [hPK] at HPl HPr
  have HPK : Hid (plc2 H zs = PK) := hPK
  obtain ⟨a0, a1', a2, a3, a4⟩ := HA.out w1 (Ev.refl _ _ _)
  clear l1 z1 a1 k1 hb1 hL hz hat ho hk hX hAl hA6 hAf hPK
  go_enter Try.func8, Try.ntmps8
  go_upto_region 1 with fail
  rw [← hw1, ← hga]
  clear hw1 hga
  go_wp2_with fail
  refine HNx.mono ?_
  rintro e w2 ⟨rfl, k2⟩
  have K2 : Hid (Kp [] w1 w2) := k2
  obtain ⟨b0, b1, b2, b3, b4⟩ := HA.out w2 (Ev.of_kp k2)
  have HS2 := HSh.out w2 k2
  clear HNx HSh k2 a0 a1' a2 a3 a4
  go_wp2_with fail
  refine HS2.mono ?_
  rintro e U ⟨so, s1, s2, rfl, M⟩
  have KU : Hid (Kp [] w1 U) := kt K2.out M.kp
  have HRz : Hid (∀ W, Ev w0 B U W → Rz W so s1 s2 A) := fun W e => (Rz.of_mp M).ev e
  have HS6 : Hid (s1 ≤ 6) := by rw [M.len]; exact HAL.out.1
  obtain ⟨c0, c1, c2, c3, c4⟩ := HA.out U (Ev.of_kp KU.out)
  have HP2 := HPl.out U KU.out
  clear HS2 HPl M K2 b0 b1 b2 b3 b4
  go_wp2_with fail
  refine HP2.mono ?_
  rintro e w9 ⟨rfl, hw⟩
  have hw2 := hw.symm
  clear hw
  subst hw2
  clear HP2
  have lU := HLi.out U KU.out
  have zU := HLs.out U KU.out
  clear HLi HLs
  have H4 := remove_list w0 U q B zs H lU (by omega)
  rw [HPK.out] at H4
  have H5 : Hid (∀ w4, Nx w0 U q B (rmv zs PK) w4 → (∃ B', Li w0 w4 q B' (rmv zs PK) ∧ Off B' bo) ∧ Ev w0 B w1 w4 ∧ Ls w4 bo zs.length d rl zs) := fun w4 hN => by
    obtain ⟨B', h1, h2, h3⟩ := hN.ls zU HOf.out
    exact ⟨⟨B', h1, h3⟩, Ev.ahead KU.out hN.2, h2⟩
  obtain ⟨p1, p2⟩ := HPr.out
  clear lU zU KU HRz HS6 HAL HPr HPK HOf
  rcases (show PK = -1 ∨ ∃ k : Nat, PK = k by exact (if h : 0 ≤ PK then Or.inr ⟨PK.toNat, by omega⟩ else Or.inl (by omega))) with rfl | ⟨k, rfl⟩
  · rw [show decide ((0 : Int) ≤ -1) = false from rfl] at H4
    rw [show rmv zs (-1) = zs from rfl] at H4 H5
    clear p1 p2
    go_wp2_with fail
    refine H4.mono ?_
    rintro e w5 ⟨rfl, hN⟩
    have HD : Hid (Dt w0 w1 q B (zs.length + 1) w5 zs bo zs.length d) := by
      obtain ⟨⟨B', h1, h2⟩, h3, h4⟩ := H5.out w5 hN
      exact ⟨rl, B', h1, h4, h2, h3, by omega⟩
    clear H4 H5 hN c0 c1 c2 c3 c4
    obtain ⟨rT, BT, lT, zT, oT, eT, bT⟩ := HD.out
    have HTl := tells_any w0 w5 q BT rT zs bo zs.length d 5 H N I sa sn sc lT zT (by have := HHL.out; omega)
    obtain ⟨c0, c1, c2, c3, c4⟩ := HA.out _ eT
    have HFin : Hid (∀ V, Kp [] w5 V → Dn w0 q zs (.returned (.tuple #[.slice bo zs.length d, .bool true])) V) := fun V kV => ⟨_, _, _, rT, zs, BT, rfl, lT.kept kV, zT.kept kV, oT, kt (HK1.out _ eT) kV, bT⟩
    clear lT zT oT eT bT HA HK1 HD
    go_wp2_with fail
    refine HTl.mono ?_
    rintro e w8 ⟨rfl, k8⟩
    have HF8 := Hid.mk (HFin.out w8 k8)
    clear HTl HFin k8
    go_wp2
    go_ret2
    exact HF8.out
  · have hk : k < zs.length := by omega
    rw [show decide ((0 : Int) ≤ (k : Int)) = true from decide_eq_true (by omega)] at H4
    have hrm : rmv zs (k : Int) = zs.take k ++ zs.drop (k + 1) := by
      unfold rmv
      rw [if_pos (by omega), show ((k : Int)).toNat = k by omega]
    rw [hrm] at H4 H5
    clear p1 p2 hrm
    have q1 : (0 : Int) ≤ (k : Int) := by omega
    go_wp2_with fail
    refine H4.mono ?_
    rintro e w5 ⟨rfl, hN⟩
    obtain ⟨⟨B5, l5, _⟩, e5, z5⟩ := H5.out w5 hN
    obtain ⟨bb, of, _, _, _, hbo, _⟩ := z5.get k hk
    subst hbo
    obtain ⟨ko, hko⟩ : ∃ a, (if d = k + 1 then (some ⟨bb, of, none⟩ : Option Addr) else some ⟨bb, of + (k + 1) * 4, none⟩) = a := ⟨_, rfl⟩
    have CC : Hid (∀ W, Kp [] w5 W → W.cell? ⟨ga, 1, none⟩ = some (.int .i64 H)) := fun W kW => (HA.out W (e5.back kW)).2.1
    have HST : Hid (∀ W, Kp [] w5 W → Src Try.prog 4 24 (.slice (some ⟨bb, of, none⟩) k d) k (cz (rl.take k)) W) := fun W kW => ((z5.rs.kept kW).take k (by omega)).src
    have HSD : Hid (∀ W, Kp [] w5 W → Src Try.prog 4 24 (.slice ko (zs.length - (k + 1)) (d - (k + 1))) (zs.length - (k + 1)) (cz (rl.drop (k + 1))) W) := fun W kW => ((z5.rs.kept kW).drop (k + 1) (by omega) ko hko.symm).src
    have HF : Hid (∀ W ao n' c', Ms w5 W ao n' c' ([] ++ rl.take k ++ rl.drop (k + 1)) → Dt w0 w1 q B (zs.length + 1) W (zs.take k ++ zs.drop (k + 1)) ao n' c') := fun W ao n' c' M => Dt.made ⟨B5, l5⟩ ⟨_, M, by
      have h1 := ((z5.sm.kept M.2.1).take k).append' ((z5.sm.kept M.2.1).drop (k + 1))
      simpa using h1⟩ M.2.1 e5 (by simp; omega)
    clear H4 H5 hN l5 e5 z5
    have q2 : (k : Int) ≤ (d : Int) := by omega
    have q3 : (k : Int) + 1 ≤ (zs.length : Int) := by omega
    have q4 : (k : Int) + 1 ≤ (d : Int) := by omega
    have q5 : (0 : Int) ≤ (k : Int) + 1 := by omega
    have q6 : (zs.length : Int) ≤ (d : Int) := by omega
    have qw : IntKind.i64.wrap ((k : Int) + 1) = (k : Int) + 1 := by rw [IntKind.wrap_i64]; have := HHL.out; omega
    have qn : ((k : Int) + 1).toNat = k + 1 := by omega
    go_upto_region 27 with fail
    obtain ⟨A0, hA0⟩ : ∃ V, V = w5.drew := ⟨_, rfl⟩
    have KA0 : Hid (Kp [] w5 A0) := by rw [hA0]; exact (Kp.refl _ _).drew
    refine wp_region_g (S := fun V => V.cell? ⟨ga, 1, none⟩ = some (.int .i64 H)) (T := []) (by kernel_rfl) (CC.out _ (Kp.refl [] w5).drew) (fun hHeld => ?_)
    rw [← hA0] at hHeld ⊢
    clear hA0
    refine g_pure 1 (some 120) (.move (.tmp 1)) ?_
    refine g_pure 2 (some 121) (.move (.tmp 10)) ?_
    refine g_pure 3 (some 122) (.slice 24 (.tmp 120) none (some (.tmp 121)) none) ?_
    refine g_pure 5 (some 124) (.move (.tmp 1)) ?_
    refine g_pure 6 (some 125) (.move (.tmp 10)) ?_
    refine g_pure 7 (some 126) (.binOp .add 3 (.tmp 125) (.const (.int .i64 1)) 3) ?_
    refine g_pure 8 (some 127) (.slice 24 (.tmp 124) (some (.tmp 126)) none none) ?_
    refine wpAnyG_ready (rs := [0]) (by kernel_rfl) (by simp) ?_
    refine AllReadyG.cons (o := ⟨some 119, .buildSlice 24 0 #[], 24, _, _, none⟩) rfl (fun K hK => ?_) AllReadyG.nil
    go_simp
    have MM := Ms.empty A0
    have hl0 : A0.heap.size < (A0.alloc (.cells #[] 40)).heap.size := lt_of (heap_new A0 (.cells #[] 40))
    obtain ⟨A1, hU⟩ : ∃ V, V = World.alloc A0 (.cells #[] 40) := ⟨_, rfl⟩
    rw [← hU] at MM hl0 ⊢
    have KA1 : Hid (Kp [] w5 A1) := kt KA0.out MM.2.1
    have B0 : Hid (Kp [] w5 A0) := KA0
    obtain ⟨g0, hg0⟩ : ∃ g, A0.heap.size = g := ⟨_, rfl⟩
    rw [hg0] at MM hl0 ⊢
    clear hU hg0
    refine hK.out _ _ (CC.out _ KA1.out) (fun hHeld1 => ?_)
    clear hK K hHeld
    try simp only [Act.put, pu1, pu2, pu3]
    refine wpAnyG_ready (rs := [4]) (by kernel_rfl) (by simp) ?_
    refine AllReadyG.cons (o := ⟨some 123, .call { callee := .builtin .append, args := #[.tmp 119, .tmp 122], argTypes := #[24, 24] }, 24, _, _, none⟩) rfl (fun K hK => ?_) AllReadyG.nil
    obtain ⟨a4, n4, c4, A2, run, MN, ⟨aa4, rfl⟩, hn, kk⟩ := MM.app (HST.out _ KA1.out) (fun h => by simp at h) (by have := HHL.out; omega)
    refine step_app2 (by rfl) _ _ 24 24 (by rfl) _ _ (by rfl) (by rfl) run ?_
    have KA2 : Hid (Kp [] w5 A2) := kt B0.out MN.2.1
    clear MM
    have MM := MN
    have HNT : Hid (n4 = 0 + k) := hn
    clear run kk hn MN
    refine hK.out _ _ (CC.out _ KA2.out) (fun hHeld2 => ?_)
    clear hK K hHeld1
    try simp only [Act.put, pu1, pu2, pu3]
    refine wpAnyG_ready (rs := [9]) (by kernel_rfl) (by simp) ?_
    refine AllReadyG.cons (o := ⟨some 128, .call { callee := .builtin .append, args := #[.tmp 123, .tmp 127], argTypes := #[24, 24] }, 24, _, _, none⟩) rfl (fun K hK => ?_) AllReadyG.nil
    obtain ⟨a9, n9, c9, A3, run, MN, ⟨aa9, rfl⟩, hn, kk⟩ := MM.app (HSD.out _ KA2.out) (fun h => by simp at h) (by have := HHL.out; have := HNT.out; omega)
    refine step_app2 (by rfl) _ _ 24 24 (by rfl) _ _ (by rfl) (by rfl) run ?_
    have KA3 : Hid (Kp [] w5 A3) := kt B0.out MN.2.1
    clear MM
    have MM := MN
    have HND : Hid (n9 = n4 + (zs.length - (k + 1))) := hn
    clear run kk hn MN
    refine hK.out _ _ (CC.out _ KA3.out) (fun hHeld3 => ?_)
    clear hK K hHeld2
    try simp only [Act.put, pu1, pu2, pu3]
    refine g_pure 10 (some 1) (.assign (.tmp 128)) ?_
    refine wpAnyG_free (by kernel_rfl) ?_
    refine wpAny_done (by kernel_rfl) ?_ _
    skip
    have HD := Hid.mk (HF.out _ _ _ _ (Ms.ahead B0.out MM))
    clear HF CC HST HSD KA0 KA1 KA2 KA3 MM B0 HNT HND hl0
    obtain ⟨rT, BT, lT, zT, oT, eT, bT⟩ := HD.out
    have HTl := tells_any w0 A3 q BT rT (zs.take k ++ zs.drop (k + 1)) (some aa9) n9 c9 5 H N I sa sn sc lT zT (by have := HHL.out; omega)
    obtain ⟨c0, c1, c2, c3, c4⟩ := HA.out _ eT
    have HFin : Hid (∀ V, Kp [] A3 V → Dn w0 q zs (.returned (.tuple #[.slice (some aa9) n9 c9, .bool true])) V) := fun V kV => ⟨_, _, _, rT, (zs.take k ++ zs.drop (k + 1)), BT, rfl, lT.kept kV, zT.kept kV, oT, kt (HK1.out _ eT) kV, bT⟩
    clear lT zT oT eT bT HA HK1 HD
    go_wp2_with fail
    refine HTl.mono ?_
    rintro e w8 ⟨rfl, k8⟩
    have HF8 := Hid.mk (HFin.out w8 k8)
    clear HTl HFin k8
    go_wp2
    go_ret2
    exact HF8.out
end Go.Proofs.Ytadcpkdnpfmphaa.Ints
