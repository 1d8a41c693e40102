/-
  do of the laws: kind 6 (0: any other).
-/
import Derived.Test.YtadcpkdnpfmphaaDn
namespace Go.Proofs.Ytadcpkdnpfmphaa.Ints
open Go.RowKit
set_option linter.unusedSimpArgs false
set_option linter.unusedVariables false

set_option maxRecDepth 100000 in
set_option maxHeartbeats 8000000 in
theorem do_6 (w0 w : World) (q : Nat) (B : List Nat) (rl : List Raw) (zs : List Ent) (bo : Option Addr) (n d : Nat) (H N I : Int) (sa : Option Addr) (sn sc : Nat) (al : List Att) (hL : Li w0 w q B zs) (hz : Ls w bo n d rl zs) (ho : Off B bo) (hk : Kp [] w0 w) (hat : Rp w sa sn sc al) (hsn : sn ≤ 140737488355328) (hl : zs.length < 900) :
    Calls Try.prog 8 #[.pointer (some ⟨q, 0, none⟩), .slice bo n d, .agg #[.int .i64 6, .int .i64 H, .int .i64 N, .int .i64 I, .slice sa sn sc]] w (Dn w0 q zs) := by
  obtain rfl : n = zs.length := hz.len
  have hcap := hz.rs.cap
  obtain ⟨w1, hw1⟩ : ∃ w1, w1 = w.alloc (.cells #[.int .i64 6, .int .i64 H, .int .i64 N, .int .i64 I, .slice sa sn sc] 29) := ⟨_, rfl⟩
  have k1 : Kp [] w w1 := by rw [hw1]; exact (Kp.refl _ _).alloc _
  have hb1 : w1.heap[w.heap.size]? = some (.cells #[.int .i64 6, .int .i64 H, .int .i64 N, .int .i64 I, .slice sa sn sc] 29 (0, 0)) := by rw [hw1]; exact heap_new _ _
  obtain ⟨ga, hga⟩ : ∃ g, g = w.heap.size := ⟨_, rfl⟩
  rw [← hga] at hb1
  have HA : Hid (∀ W, Ev w0 B w1 W → W.cell? ⟨ga, 0, none⟩ = some (.int .i64 6) ∧ W.cell? ⟨ga, 1, none⟩ = some (.int .i64 H) ∧ W.cell? ⟨ga, 2, none⟩ = some (.int .i64 N) ∧ W.cell? ⟨ga, 3, none⟩ = some (.int .i64 I) ∧ W.cell? ⟨ga, 4, none⟩ = some (.slice sa sn sc)) := fun W e => by
    have h2 := e.cells _ _ _ hb1 not_pil_ask (fun e => absurd e ask_item)
    exact ⟨cell_of h2 0, cell_of h2 1, cell_of h2 2, cell_of h2 3, cell_of h2 4⟩
  have HK1 : Hid (∀ W, Ev w0 B w1 W → Kp [] w0 W) := fun W e => e.kp (kt hk k1)
  have l1 := hL.kept k1
  have z1 := hz.kept k1
  have a1 := hat.kept k1
  have HHL : Hid (zs.length < 900) := hl
  have HNx := names_any w1 N
  obtain ⟨X, hX⟩ : ∃ X, nm N = X := ⟨_, rfl⟩
  rw [hX] at HNx
  have HSh : Hid (∀ W, Kp [] w1 W → Calls Try.prog 14 #[.slice sa sn sc] W fun e w' => ∃ ao' n' c', e = .returned (.slice ao' n' c') ∧ Mp W w' ao' n' c' (short al)) := fun W kW => short_any W al sa sn sc (a1.kept kW) hsn
  obtain ⟨A, hAl⟩ : ∃ A, short al = A := ⟨_, rfl⟩
  have hA6 : A.length ≤ 6 := by rw [← hAl]; exact short_len al
  have hAf : fits A := by rw [← hAl]; exact short_fits al
  rw [hAl] at HSh
  have HAL : Hid (A.length ≤ 6 ∧ fits A) := ⟨hA6, hAf⟩
  have HPl : Hid (∀ W, Kp [] w1 W → Calls Try.prog 25 #[.slice bo zs.length d, .int .i64 H] W fun e w' => e = .returned (.int .i64 (plc2 H zs)) ∧ w' = W) := fun W kW => lplace_any W rl zs H bo zs.length d (z1.kept kW) (by omega)
  have HPr : Hid (-1 ≤ plc2 H zs ∧ plc2 H zs < zs.length) := plc2_range H zs
  have HLi : Hid (∀ W, Kp [] w1 W → Li w0 W q B zs) := fun W kW => l1.kept kW
  have HLs : Hid (∀ W, Kp [] w1 W → Ls W bo zs.length d rl zs) := fun W kW => z1.kept kW
  have HOf : Hid (Off B bo) := ho
  obtain ⟨PK, hPK⟩ : ∃ k, plc2 H zs = k := ⟨_, rfl⟩
  rw [hPK] at HPl HPr
  have HPK : Hid (plc2 H zs = PK) := hPK
  obtain ⟨a0, a1', a2, a3, a4⟩ := HA.out w1 (Ev.refl _ _ _)
  clear l1 z1 a1 k1 hb1 hL hz hat ho hk hX hAl hA6 hAf hPK
  go_enter Try.func8, Try.ntmps8
  go_upto_region 1 with fail
  rw [← hw1, ← hga]
  clear hw1 hga
  go_wp2_with fail
  refine HNx.mono ?_
  rintro e w2 ⟨rfl, k2⟩
  have K2 : Hid (Kp [] w1 w2) := k2
  obtain ⟨b0, b1, b2, b3, b4⟩ := HA.out w2 (Ev.of_kp k2)
  have HS2 := HSh.out w2 k2
  clear HNx HSh k2 a0 a1' a2 a3 a4
  go_wp2_with fail
  refine HS2.mono ?_
  rintro e U ⟨so, s1, s2, rfl, M⟩
  have KU : Hid (Kp [] w1 U) := kt K2.out M.kp
  have HRz : Hid (∀ W, Ev w0 B U W → Rz W so s1 s2 A) := fun W e => (Rz.of_mp M).ev e
  have HS6 : Hid (s1 ≤ 6) := by rw [M.len]; exact HAL.out.1
  obtain ⟨c0, c1, c2, c3, c4⟩ := HA.out U (Ev.of_kp KU.out)
  have HP2 := HPl.out U KU.out
  clear HS2 HPl M K2 b0 b1 b2 b3 b4
  go_wp2_with fail
  refine HP2.mono ?_
  rintro e w9 ⟨rfl, hw⟩
  have hw2 := hw.symm
  clear hw
  subst hw2
  clear HP2
  have lU := HLi.out U KU.out
  have zU := HLs.out U KU.out
  clear HLi HLs
  have H4 := replace_list w0 U q B zs H I lU (by omega)
  rw [HPK.out] at H4
  have H5 : Hid (∀ w4, Nx w0 U q B (rpl zs PK I) w4 → (∃ B', Li w0 w4 q B' (rpl zs PK I) ∧ Off B' bo) ∧ Ev w0 B w1 w4 ∧ Ls w4 bo zs.length d rl zs) := fun w4 hN => by
    obtain ⟨B', h1, h2, h3⟩ := hN.ls zU HOf.out
    exact ⟨⟨B', h1, h3⟩, Ev.ahead KU.out hN.2, h2⟩
  obtain ⟨p1, p2⟩ := HPr.out
  clear lU zU KU HRz HS6 HAL HPr HPK HOf
  rcases (show PK = -1 ∨ ∃ k : Nat, PK = k by exact (if h : 0 ≤ PK then Or.inr ⟨PK.toNat, by omega⟩ else Or.inl (by omega))) with rfl | ⟨k, rfl⟩
  · rw [show decide ((0 : Int) ≤ -1) = false from rfl] at H4
    rw [show rpl zs (-1) I = zs from rfl] at H4 H5
    clear p1 p2
    go_wp2_with fail
    refine H4.mono ?_
    rintro e w5 ⟨rfl, hN⟩
    have HD : Hid (Dt w0 w1 q B (zs.length + 1) w5 zs bo zs.length d) := by
      obtain ⟨⟨B', h1, h2⟩, h3, h4⟩ := H5.out w5 hN
      exact ⟨rl, B', h1, h4, h2, h3, by omega⟩
    clear H4 H5 hN c0 c1 c2 c3 c4
    obtain ⟨rT, BT, lT, zT, oT, eT, bT⟩ := HD.out
    have HTl := tells_any w0 w5 q BT rT zs bo zs.length d 6 H N I sa sn sc lT zT (by have := HHL.out; omega)
    obtain ⟨c0, c1, c2, c3, c4⟩ := HA.out _ eT
    have HFin : Hid (∀ V, Kp [] w5 V → Dn w0 q zs (.returned (.tuple #[.slice bo zs.length d, .bool true])) V) := fun V kV => ⟨_, _, _, rT, zs, BT, rfl, lT.kept kV, zT.kept kV, oT, kt (HK1.out _ eT) kV, bT⟩
    clear lT zT oT eT bT HA HK1 HD
    go_wp2_with fail
    refine HTl.mono ?_
    rintro e w8 ⟨rfl, k8⟩
    have HF8 := Hid.mk (HFin.out w8 k8)
    clear HTl HFin k8
    go_wp2
    go_ret2
    exact HF8.out
  · have hk : k < zs.length := by omega
    rw [show decide ((0 : Int) ≤ (k : Int)) = true from decide_eq_true (by omega)] at H4
    have hrm : rpl zs (k : Int) I = zs.modify k (hnd I) := by
      unfold rpl
      rw [if_pos (by omega), show ((k : Int)).toNat = k by omega]
    rw [hrm] at H4 H5
    clear p1 p2 hrm
    have q1 : (0 : Int) ≤ (k : Int) := by omega
    go_wp2_with fail
    refine H4.mono ?_
    rintro e w5 ⟨rfl, hN⟩
    obtain ⟨⟨B5, l5, _⟩, e5, z5⟩ := H5.out w5 hN
    have M0 := Ms.empty w5
    obtain ⟨a2, n2, d2, w6, run2, M2, ⟨a2a, rfl⟩, hn2, kk2⟩ := M0.app ((z5.rs.kept M0.2.1).src) (fun h => by simp at h) (by have := HHL.out; omega)
    obtain rfl : n2 = zs.length := by omega
    obtain ⟨g, o, rfl, f1, ⟨ov, f2⟩, MH, SH⟩ := M2.hand (by rw [List.nil_append]; exact z5.sm.kept M2.2.1) k (by rw [List.nil_append, z5.sm.len]; exact hk) I
    have HD : Hid (Dt w0 w1 q B (zs.length + 1) (w6.setCell ⟨g, o + k * 4 + 1, none⟩ (.int .i64 I)) (zs.modify k (hnd I)) (some ⟨g, o, none⟩) zs.length d2) := Dt.made ⟨B5, l5⟩ ⟨_, MH, SH⟩ MH.2.1 e5 (by simp)
    obtain ⟨c0, c1, c2, c3, c4⟩ := HA.out w6 (e5.back M2.2.1)
    obtain ⟨m0, m1, m2, m3, m4⟩ := HA.out w5 e5
    have q7 : (k : Int) < (zs.length : Int) := by omega
    clear H4 H5 hN M0 hn2 kk2 M2 MH SH l5 e5 z5
    obtain ⟨WS, hWS⟩ : ∃ W, W = w6.setCell ⟨g, o + k * 4 + 1, none⟩ (.int .i64 I) := ⟨_, rfl⟩
    rw [← hWS] at HD
    go_upto_region 43 with (at_builtin; refine Lib.wpList_append_run _ rfl _ _ _ _ rfl _ _ rfl rfl _ _ (run2 _) ?_; clear run2)
    rw [← hWS]
    clear hWS
    obtain ⟨rT, BT, lT, zT, oT, eT, bT⟩ := HD.out
    have HTl := tells_any w0 WS q BT rT (zs.modify k (hnd I)) (some ⟨g, o, none⟩) zs.length d2 6 H N I sa sn sc lT zT (by have := HHL.out; omega)
    obtain ⟨c0, c1, c2, c3, c4⟩ := HA.out _ eT
    have HFin : Hid (∀ V, Kp [] WS V → Dn w0 q zs (.returned (.tuple #[.slice (some ⟨g, o, none⟩) zs.length d2, .bool true])) V) := fun V kV => ⟨_, _, _, rT, (zs.modify k (hnd I)), BT, rfl, lT.kept kV, zT.kept kV, oT, kt (HK1.out _ eT) kV, bT⟩
    clear lT zT oT eT bT HA HK1 HD
    go_wp2_with fail
    refine HTl.mono ?_
    rintro e w8 ⟨rfl, k8⟩
    have HF8 := Hid.mk (HFin.out w8 k8)
    clear HTl HFin k8
    go_wp2
    go_ret2
    exact HF8.out
end Go.Proofs.Ytadcpkdnpfmphaa.Ints
