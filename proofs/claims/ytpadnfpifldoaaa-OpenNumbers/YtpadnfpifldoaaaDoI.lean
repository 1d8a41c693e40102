/-
  do of the laws: kind 4.
-/
import Derived.Test.YtpadnfpifldoaaaDn
namespace Go.Proofs.Ytpadnfpifldoaaa.Ints
open Go.RowKit
set_option linter.unusedSimpArgs false
set_option linter.unusedVariables false

set_option maxRecDepth 100000 in
set_option maxHeartbeats 4000000 in
theorem do_4 (w0 w : World) (q : Nat) (zs : List It) (bo : Option Addr) (n d : Nat) (H N M : Int) (svg : Bool) (hL : Li w0 w q zs) (hz : Rs w bo n d zs) (hl : zs.length < 900) :
    Calls Try.prog 9 #[.pointer (some ⟨q, 0, none⟩), .slice bo n d, .agg #[.int .i64 4, .int .i64 H, .int .i64 N, .int .i64 M, .bool svg]] w (Dn w0 w q zs) := by
  obtain rfl : n = zs.length := hz.len
  have hcap := hz.cap
  obtain ⟨w1, hw1⟩ : ∃ w1, w1 = w.alloc (.cells #[.int .i64 4, .int .i64 H, .int .i64 N, .int .i64 M, .bool svg] 26) := ⟨_, rfl⟩
  have k1 : Kp [] w w1 := by rw [hw1]; exact (Kp.refl _ _).alloc _
  have hb1 : w1.heap[w.heap.size]? = some (.cells #[.int .i64 4, .int .i64 H, .int .i64 N, .int .i64 M, .bool svg] 26 (0, 0)) := by rw [hw1]; exact heap_new _ _
  obtain ⟨ga, hga⟩ : ∃ g, g = w.heap.size := ⟨_, rfl⟩
  rw [← hga] at hb1
  have HA : Hid (∀ W, Ev w0 w1 W → W.cell? ⟨ga, 0, none⟩ = some (.int .i64 4) ∧ W.cell? ⟨ga, 1, none⟩ = some (.int .i64 H) ∧ W.cell? ⟨ga, 2, none⟩ = some (.int .i64 N) ∧ W.cell? ⟨ga, 3, none⟩ = some (.int .i64 M) ∧ W.cell? ⟨ga, 4, none⟩ = some (.bool svg)) := fun W e => by
    have h2 := e.cells _ _ _ hb1 not_pil_ask
    exact ⟨cell_of h2 0, cell_of h2 1, cell_of h2 2, cell_of h2 3, cell_of h2 4⟩
  have HE1 : Hid (∀ W, Ev w0 w1 W → Ev w0 w W) := fun W e => (Ev.of_kp k1).trans e
  have l1 := hL.kept k1
  have z1 := hz.kept k1
  have HL : Hid (∀ W, Kp [] w1 W → Li w0 W q zs) := fun W kW => l1.kept kW
  have HZ : Hid (∀ W, Kp [] w1 W → Rs W bo zs.length d zs) := fun W kW => z1.kept kW
  have HLp : Hid (∀ W, Kp [] w1 W → Calls Try.prog 35 #[.slice bo zs.length d, .int .i64 H] W fun e w' => e = .returned (.int .i64 (plc (eqh H) zs)) ∧ w' = W) := fun W kW => lplace_any W zs H bo zs.length d (z1.kept kW) (by omega)
  have HPr : Hid (-1 ≤ plc (eqh H) zs ∧ plc (eqh H) zs < zs.length) := plc_range (eqh H) zs
  obtain ⟨PK, hPK⟩ : ∃ k, plc (eqh H) zs = k := ⟨_, rfl⟩
  rw [hPK] at HLp HPr
  have HPK : Hid (plc (eqh H) zs = PK) := hPK
  obtain ⟨X, hX⟩ : ∃ X, nm N = X := ⟨_, rfl⟩
  obtain ⟨Y, hY⟩ : ∃ Y, nm M = Y := ⟨_, rfl⟩
  have HNx : Hid (∀ W, Calls Try.prog 18 #[.int .i64 N] W fun e w' => e = .returned (.string X) ∧ Kp [] W w') := fun W => by rw [← hX]; exact names_any W N
  have HNy : Hid (∀ W, Calls Try.prog 18 #[.int .i64 M] W fun e w' => e = .returned (.string Y) ∧ Kp [] W w') := fun W => by rw [← hY]; exact names_any W M
  have HC2 : Hid (∀ W, Kp [] w1 W → W.cell? ⟨ga, 2, none⟩ = some (.int .i64 N) ∧ W.cell? ⟨ga, 3, none⟩ = some (.int .i64 M)) := fun W kW => by
    obtain ⟨_, _, c2, c3, _⟩ := HA.out W (Ev.of_kp kW)
    exact ⟨c2, c3⟩
  have HHL : Hid (zs.length < 900) := hl
  clear l1 z1 k1 hb1 hL hz hPK hX hY
  go_enter Try.func9, Try.ntmps9
  go_upto_region 1 with fail
  rw [← hw1, ← hga]
  clear hw1 hga
  obtain ⟨U0, hU0⟩ : ∃ V, V = w1.drew := ⟨_, rfl⟩
  have K0 : Hid (Kp [] w1 U0) := by rw [hU0]; exact (Kp.refl _ _).drew
  refine wp_region_g (S := fun V => V.cell? ⟨ga, 2, none⟩ = some (.int .i64 N) ∧ V.cell? ⟨ga, 3, none⟩ = some (.int .i64 M)) (T := []) (by kernel_rfl) (HC2.out _ (Kp.refl [] w1).drew) (fun hHeld => ?_)
  rw [← hU0] at hHeld ⊢
  clear hU0
  refine g_pure 0 (some 18) (.fieldAddr 26 (.tmp 5) 2) ?_
  refine g_take 1 (some 19) (.load 3 (.tmp 18)) (by intro w hSw; (obtain ⟨s0, s1⟩ := hSw); go_simp; try with_reducible rfl) ?_
  refine g_pure 3 (some 21) (.fieldAddr 26 (.tmp 5) 3) ?_
  refine g_take 4 (some 22) (.load 3 (.tmp 21)) (by intro w hSw; (obtain ⟨s0, s1⟩ := hSw); go_simp; try with_reducible rfl) ?_
  refine wpAnyG_ready (rs := [2]) (by kernel_rfl) (by simp) ?_
  refine AllReadyG.cons (o := ⟨some 20, .call { callee := .value (.func 18), args := #[.tmp 19], argTypes := #[3] }, 9, _, _, none⟩) rfl (fun K hK => ?_) AllReadyG.nil
  go_simp
  go_at_call 18
  refine (HNx.out U0).mono ?_
  rintro e U1 ⟨rfl, kk⟩
  have K1 : Hid (Kp [] w1 U1) := kt K0.out kk
  clear kk
  go_wp2_with fail
  refine hK.out _ _ (HC2.out _ K1.out) (fun hHeld1 => ?_)
  clear hK K hHeld
  try simp only [Act.put, pu1, pu2, pu3]
  refine wpAnyG_ready (rs := [5]) (by kernel_rfl) (by simp) ?_
  refine AllReadyG.cons (o := ⟨some 23, .call { callee := .value (.func 18), args := #[.tmp 22], argTypes := #[3] }, 9, _, _, none⟩) rfl (fun K hK => ?_) AllReadyG.nil
  go_simp
  go_at_call 18
  refine (HNy.out U1).mono ?_
  rintro e U2 ⟨rfl, kk⟩
  have K2 : Hid (Kp [] w1 U2) := kt K1.out kk
  clear kk
  go_wp2_with fail
  refine hK.out _ _ (HC2.out _ K2.out) (fun hHeld2 => ?_)
  clear hK K hHeld1
  try simp only [Act.put, pu1, pu2, pu3]
  refine g_pure 6 (some 8) (.assign (.tmp 20)) ?_
  refine g_pure 7 (some 9) (.assign (.tmp 23)) ?_
  refine wpAnyG_free (by kernel_rfl) ?_
  refine wpAny_done (by kernel_rfl) ?_ _
  skip
  obtain ⟨c0, c1, c2, c3, c4⟩ := HA.out U2 (Ev.of_kp K2.out)
  have HP2 := HLp.out U2 K2.out
  have lU := HL.out U2 K2.out
  have zU := HZ.out U2 K2.out
  have EU : Hid (Ev w0 w1 U2) := Ev.of_kp K2.out
  clear HLp HNx HNy HC2 HL HZ K0 K1 K2
  go_wp2_with fail
  refine HP2.mono ?_
  rintro e w9 ⟨rfl, hw⟩
  have hw2 := hw.symm
  clear hw
  subst hw2
  clear HP2
  have HEl : Hid (∀ W, Calls Try.prog 12 #[.agg #[.int .i64 4, .int .i64 H, .int .i64 N, .int .i64 M, .bool svg]] W fun e w' => e = .returned (iv (elF (4, H, N, M, svg))) ∧ Kp [] W w') := fun W => el_any W (4, H, N, M, svg)
  obtain ⟨x, hx⟩ : ∃ x, elF (4, H, N, M, svg) = x := ⟨_, rfl⟩
  rw [hx] at HEl
  clear hx
  obtain ⟨xh, xn, xs⟩ := x
  unfold iv at HEl
  simp only at HEl
  go_wp2_with fail
  refine (HEl.out U2).mono ?_
  rintro e w3 ⟨rfl, k3⟩
  have kX : Kp [] w3 (w3.alloc (.cells #[.int .i64 xh, .int .i64 xn, .string xs, .slice none 0 0] 36)) := (Kp.refl _ _).alloc _
  have kY : Kp [] w3 (w3.alloc (.cells #[.int .i64 M, .int .i64 xn, .string xs, .slice none 0 0] 36)) := (Kp.refl _ _).alloc _
  have hbY : (w3.alloc (.cells #[.int .i64 M, .int .i64 xn, .string xs, .slice none 0 0] 36)).heap[w3.heap.size]? = some (.cells (ic (M, xn, xs)) 36 (0, 0)) := heap_new _ _
  have EY : Hid (Ev w0 w1 (w3.alloc (.cells #[.int .i64 M, .int .i64 xn, .string xs, .slice none 0 0] 36))) := (EU.out.back k3).back kY
  have ZY : Hid (Rs (w3.alloc (.cells #[.int .i64 M, .int .i64 xn, .string xs, .slice none 0 0] 36)) bo zs.length d zs) := (zU.kept k3).kept kY
  have H4 := replace_list w0 (w3.alloc (.cells #[.int .i64 M, .int .i64 xn, .string xs, .slice none 0 0] 36)) q zs H (M, xn, xs) ((lU.kept k3).kept kY) (by have := HHL.out; omega)
  obtain ⟨x0, x1, x2, x3, x4⟩ := HA.out _ ((EU.out.back k3).back kX)
  obtain ⟨y0, y1, y2, y3, y4⟩ := HA.out _ EY.out
  have BY : Hid ((w3.alloc (.cells #[.int .i64 M, .int .i64 xn, .string xs, .slice none 0 0] 36)).heap[w3.heap.size]? = some (.cells (ic (M, xn, xs)) 36 (0, 0))) := hbY
  unfold iv at H4
  simp only at H4
  clear lU zU EU HEl c0 c1 c2 c3 c4 k3 kX kY hbY
  rw [HPK.out] at H4
  obtain ⟨p1, p2⟩ := HPr.out
  rcases (show PK = -1 ∨ ∃ k : Nat, PK = k by exact (if h : 0 ≤ PK then Or.inr ⟨PK.toNat, by omega⟩ else Or.inl (by omega))) with rfl | ⟨k, rfl⟩
  · rw [show decide ((0 : Int) ≤ -1) = false from rfl, show rpl zs (-1) (M, xn, xs) = zs from rfl] at H4
    clear HPr HPK p1 p2
    go_wp2_with fail
    refine H4.mono ?_
    rintro e w5 ⟨rfl, l5, e5⟩
    have HD : Hid (Li w0 w5 q zs ∧ Rs w5 bo zs.length d zs ∧ Ev w0 w1 w5 ∧ zs.length ≤ zs.length + 1) := ⟨l5, ZY.out.ev e5, EY.out.trans e5, by omega⟩
    clear H4 l5 e5 ZY EY x0 x1 x2 x3 x4 y0 y1 y2 y3 y4 BY
    obtain ⟨lT, zT, eT, bT⟩ := HD.out
    have HTl := tells_any w0 w5 q zs bo zs.length d (4, H, N, M, svg) lT zT (by have := HHL.out; omega)
    unfold av at HTl
    simp only at HTl
    obtain ⟨c0, c1, c2, c3, c4⟩ := HA.out _ eT
    have HFin : Hid (∀ W, Kp [] w5 W → Dn w0 w q zs (.returned (.tuple #[.slice bo zs.length d, .bool true])) W) := fun W kW => ⟨_, _, _, zs, rfl, lT.kept kW, zT.kept kW, (HE1.out _ eT).back kW, bT⟩
    clear lT zT eT bT HA HE1 HD
    go_wp2_with fail
    refine HTl.mono ?_
    rintro e w8 ⟨rfl, k8⟩
    have HF8 := Hid.mk (HFin.out w8 k8)
    clear HTl HFin k8
    go_wp2
    go_ret2
    exact HF8.out
  · have hk : k < zs.length := by omega
    rw [show decide ((0 : Int) ≤ (k : Int)) = true from decide_eq_true (by omega), rpl_pos zs k (M, xn, xs) hk] at H4
    clear HPr HPK p1 p2
    have q1 : (0 : Int) ≤ (k : Int) := by omega
    go_wp2_with fail
    refine H4.mono ?_
    rintro e w5 ⟨rfl, l5, e5⟩
    have z5 := ZY.out.ev e5
    have f5 := EY.out.trans e5
    have b5 := e5.cells _ _ _ BY.out not_pil_item
    obtain ⟨bb, of, hbo, _⟩ := z5.get k hk
    subst hbo
    obtain ⟨ko, hko⟩ : ∃ a, (if d = k + 1 then (some ⟨bb, of, none⟩ : Option Addr) else some ⟨bb, of + (k + 1) * 4, none⟩) = a := ⟨_, rfl⟩
    have CC : Hid (∀ W, Kp [] w5 W → W.cell? ⟨w3.heap.size, 0, none⟩ = some (.int .i64 M) ∧ W.cell? ⟨w3.heap.size, 1, none⟩ = some (.int .i64 xn) ∧ W.cell? ⟨w3.heap.size, 2, none⟩ = some (.string xs) ∧ W.cell? ⟨w3.heap.size, 3, none⟩ = some (.slice none 0 0)) := fun W kW => by
      have h2 := (kW.block _ (lt_of b5) (by simp)).trans b5
      exact ⟨cell_of h2 0, cell_of h2 1, cell_of h2 2, cell_of h2 3⟩
    have HST : Hid (∀ W, Kp [] w5 W → Src Try.prog 4 24 (.slice (some ⟨bb, of, none⟩) (k) d) (k) (cz (zs.take (k))) W) := fun W kW => ((z5.kept kW).take (k) (by omega)).src
    have HSD : Hid (∀ W, Kp [] w5 W → Src Try.prog 4 24 (.slice ko (zs.length - (k + 1)) (d - (k + 1))) (zs.length - (k + 1)) (cz (zs.drop (k + 1))) W) := fun W kW => ((z5.kept kW).drop (k + 1) (by omega) ko hko.symm).src
    have HF : Hid (∀ W ao n' c', Kp [] w5 W → Rs W ao n' c' ([] ++ zs.take (k) ++ [((M, xn, xs) : It)] ++ zs.drop (k + 1)) → Li w0 W q ([] ++ zs.take (k) ++ [((M, xn, xs) : It)] ++ zs.drop (k + 1)) ∧ Rs W ao n' c' ([] ++ zs.take (k) ++ [((M, xn, xs) : It)] ++ zs.drop (k + 1)) ∧ Ev w0 w1 W ∧ ([] ++ zs.take (k) ++ [((M, xn, xs) : It)] ++ zs.drop (k + 1)).length ≤ zs.length + 1) := fun W ao n' c' kW rs => ⟨l5.kept kW, rs, f5.back kW, by simp; omega⟩
    clear H4 l5 e5 z5 f5 EY ZY x0 x1 x2 x3 x4 y0 y1 y2 y3 y4 BY b5
    have q2 : (k : Int) ≤ (d : Int) := by omega
    have q3 : (k : Int) + 1 ≤ (zs.length : Int) := by omega
    have q4 : (k : Int) + 1 ≤ (d : Int) := by omega
    have q5 : (0 : Int) ≤ (k : Int) + 1 := by omega
    have q6 : (zs.length : Int) ≤ (d : Int) := by omega
    have qw : IntKind.i64.wrap ((k : Int) + 1) = (k : Int) + 1 := by rw [IntKind.wrap_i64]; have := HHL.out; omega
    have qn : ((k : Int) + 1).toNat = k + 1 := by omega
    go_wp2_with fail
    obtain ⟨A0, hA0⟩ : ∃ V, V = w5.drew := ⟨_, rfl⟩
    have KA0 : Hid (Kp [] w5 A0) := by rw [hA0]; exact (Kp.refl _ _).drew
    refine wp_region_g (S := fun V => V.cell? ⟨w3.heap.size, 0, none⟩ = some (.int .i64 M) ∧ V.cell? ⟨w3.heap.size, 1, none⟩ = some (.int .i64 xn) ∧ V.cell? ⟨w3.heap.size, 2, none⟩ = some (.string xs) ∧ V.cell? ⟨w3.heap.size, 3, none⟩ = some (.slice none 0 0)) (T := []) (by kernel_rfl) (CC.out _ (Kp.refl [] w5).drew) (fun hHeld => ?_)
    rw [← hA0] at hHeld ⊢
    clear hA0
    refine g_pure 1 (some 116) (.move (.tmp 1)) ?_
    refine g_pure 2 (some 117) (.move (.tmp 10)) ?_
    refine g_pure 3 (some 118) (.slice 24 (.tmp 116) none (some (.tmp 117)) none) ?_
    refine g_take 5 (some 120) (.load 36 (.tmp 14)) (by intro w hSw; (obtain ⟨s0, s1, s2, s3⟩ := hSw); go_simp; try with_reducible rfl) ?_
    refine g_pure 8 (some 123) (.move (.tmp 1)) ?_
    refine g_pure 9 (some 124) (.move (.tmp 10)) ?_
    refine g_pure 10 (some 125) (.binOp .add 3 (.tmp 124) (.const (.int .i64 1)) 3) ?_
    refine g_pure 11 (some 126) (.slice 24 (.tmp 123) (some (.tmp 125)) none none) ?_
    refine wpAnyG_ready (rs := [0, 6]) (by kernel_rfl) (by simp) ?_
    refine AllReadyG.cons (o := ⟨some 115, .buildSlice 24 0 #[], 24, _, _, none⟩) rfl (fun K hK => ?_) ?_
    · go_simp
      have MM := Ms.empty A0
      have hl0 : A0.heap.size < (A0.alloc (.cells #[] 36)).heap.size := lt_of (heap_new A0 (.cells #[] 36))
      obtain ⟨A1, hU⟩ : ∃ V, V = World.alloc A0 (.cells #[] 36) := ⟨_, rfl⟩
      rw [← hU] at MM hl0 ⊢
      have KA1 : Hid (Kp [] w5 A1) := kt KA0.out MM.2.1
      have B0 : Hid (Kp [] w5 A0) := KA0
      obtain ⟨g0, hg0⟩ : ∃ g, A0.heap.size = g := ⟨_, rfl⟩
      rw [hg0] at MM hl0 ⊢
      clear hU hg0
      refine hK.out _ _ (CC.out _ KA1.out) (fun hHeld1 => ?_)
      clear hK K hHeld
      try simp only [Act.put, pu1, pu2, pu3]
      refine wpAnyG_ready (rs := [4, 6]) (by kernel_rfl) (by simp) ?_
      refine AllReadyG.cons (o := ⟨some 119, .call { callee := .builtin .append, args := #[.tmp 115, .tmp 118], argTypes := #[24, 24] }, 24, _, _, none⟩) rfl (fun K hK => ?_) ?_
      · obtain ⟨a4, n4, c4, A2, run, MN, ⟨aa4, rfl⟩, hn, kk⟩ := MM.app (HST.out _ KA1.out) (fun h => by simp at h) (by have := HHL.out; omega)
        refine step_app2 (by rfl) _ _ 24 24 (by rfl) _ _ (by rfl) (by rfl) run ?_
        have KA2 : Hid (Kp [] w5 A2) := kt B0.out MN.2.1
        clear MM
        have MM := MN
        have HNT : Hid (n4 = 0 + (k)) := hn
        clear run kk hn MN
        refine hK.out _ _ (CC.out _ KA2.out) (fun hHeld2 => ?_)
        clear hK K hHeld1
        try simp only [Act.put, pu1, pu2, pu3]
        refine wpAnyG_ready (rs := [6]) (by kernel_rfl) (by simp) ?_
        refine AllReadyG.cons (o := ⟨some 121, .buildSlice 24 1 #[(0, .tmp 120)], 24, _, _, none⟩) rfl (fun K hK => ?_) AllReadyG.nil
        go_simp
        have hgL : (A2.alloc (.cells #[.int .i64 M, .int .i64 xn, .string xs, .slice none 0 0] 36)).heap[A2.heap.size]? = some (.cells (ic (M, xn, xs)) 36 (0, 0)) := heap_new _ _
        obtain ⟨A3, hU⟩ : ∃ V, V = World.alloc A2 (.cells #[.int .i64 M, .int .i64 xn, .string xs, .slice none 0 0] 36) := ⟨_, rfl⟩
        have kk : Kp [] A2 A3 := by rw [hU]; exact (Kp.refl _ _).alloc _
        rw [← hU] at hgL ⊢
        have KA3 : Hid (Kp [] w5 A3) := kt KA2.out kk
        have MM := MM.kept kk
        obtain ⟨gL, hgg⟩ : ∃ g, A2.heap.size = g := ⟨_, rfl⟩
        rw [hgg] at hgL ⊢
        clear hU hgg kk
        refine hK.out _ _ (CC.out _ KA3.out) (fun hHeld3 => ?_)
        clear hK K hHeld2
        try simp only [Act.put, pu1, pu2, pu3]
        refine wpAnyG_ready (rs := [7]) (by kernel_rfl) (by simp) ?_
        refine AllReadyG.cons (o := ⟨some 122, .call { callee := .builtin .append, args := #[.tmp 119, .tmp 121], argTypes := #[24, 24] }, 24, _, _, none⟩) rfl (fun K hK => ?_) AllReadyG.nil
        obtain ⟨a7, n7, c7, A4, run, MN, ⟨aa7, rfl⟩, hn, kk⟩ := MM.app ((lit_rs hgL).src) (fun h => by simp at h) (by have := HHL.out; have := HNT.out; omega)
        refine step_app2 (by rfl) _ _ 24 24 (by rfl) _ _ (by rfl) (by rfl) run ?_
        have KA4 : Hid (Kp [] w5 A4) := kt B0.out MN.2.1
        clear MM
        have MM := MN
        have HNY : Hid (n7 = n4 + 1) := hn
        clear run kk hn MN
        refine hK.out _ _ (CC.out _ KA4.out) (fun hHeld4 => ?_)
        clear hK K hHeld3
        try simp only [Act.put, pu1, pu2, pu3]
        refine wpAnyG_ready (rs := [12]) (by kernel_rfl) (by simp) ?_
        refine AllReadyG.cons (o := ⟨some 127, .call { callee := .builtin .append, args := #[.tmp 122, .tmp 126], argTypes := #[24, 24] }, 24, _, _, none⟩) rfl (fun K hK => ?_) AllReadyG.nil
        obtain ⟨a12, n12, c12, A5, run, MN, ⟨aa12, rfl⟩, hn, kk⟩ := MM.app (HSD.out _ KA4.out) (fun h => by simp at h) (by have := HHL.out; have := HNT.out; have := HNY.out; omega)
        refine step_app2 (by rfl) _ _ 24 24 (by rfl) _ _ (by rfl) (by rfl) run ?_
        have KA5 : Hid (Kp [] w5 A5) := kt B0.out MN.2.1
        clear MM
        have MM := MN
        clear run kk hn MN
        refine hK.out _ _ (CC.out _ KA5.out) (fun hHeld5 => ?_)
        clear hK K hHeld4
        try simp only [Act.put, pu1, pu2, pu3]
        refine g_pure 13 (some 1) (.assign (.tmp 127)) ?_
        refine wpAnyG_free (by kernel_rfl) ?_
        refine wpAny_done (by kernel_rfl) ?_ _
        have HD := Hid.mk (HF.out _ _ _ _ KA5.out MM.rs)
        clear HF CC HST HSD KA0 KA1 KA2 KA3 KA4 KA5 MM B0 HNT HNY hgL
        obtain ⟨lT, zT, eT, bT⟩ := HD.out
        have HTl := tells_any w0 A5 q ([] ++ zs.take (k) ++ [((M, xn, xs) : It)] ++ zs.drop (k + 1)) (some aa12) n12 c12 (4, H, N, M, svg) lT zT (by have := HHL.out; omega)
        unfold av at HTl
        simp only at HTl
        obtain ⟨c0, c1, c2, c3, c4⟩ := HA.out _ eT
        have HFin : Hid (∀ W, Kp [] A5 W → Dn w0 w q zs (.returned (.tuple #[.slice (some aa12) n12 c12, .bool true])) W) := fun W kW => ⟨_, _, _, ([] ++ zs.take (k) ++ [((M, xn, xs) : It)] ++ zs.drop (k + 1)), rfl, lT.kept kW, zT.kept kW, (HE1.out _ eT).back kW, bT⟩
        clear lT zT eT bT HA HE1 HD
        go_wp2_with fail
        refine HTl.mono ?_
        rintro e w8 ⟨rfl, k8⟩
        have HF8 := Hid.mk (HFin.out w8 k8)
        clear HTl HFin k8
        go_wp2
        go_ret2
        exact HF8.out
      refine AllReadyG.cons (o := ⟨some 121, .buildSlice 24 1 #[(0, .tmp 120)], 24, _, _, none⟩) rfl (fun K hK => ?_) AllReadyG.nil
      go_simp
      have hgL : (A1.alloc (.cells #[.int .i64 M, .int .i64 xn, .string xs, .slice none 0 0] 36)).heap[A1.heap.size]? = some (.cells (ic (M, xn, xs)) 36 (0, 0)) := heap_new _ _
      obtain ⟨A2, hU⟩ : ∃ V, V = World.alloc A1 (.cells #[.int .i64 M, .int .i64 xn, .string xs, .slice none 0 0] 36) := ⟨_, rfl⟩
      have kk : Kp [] A1 A2 := by rw [hU]; exact (Kp.refl _ _).alloc _
      rw [← hU] at hgL ⊢
      have KA2 : Hid (Kp [] w5 A2) := kt KA1.out kk
      have MM := MM.kept kk
      obtain ⟨gL, hgg⟩ : ∃ g, A1.heap.size = g := ⟨_, rfl⟩
      rw [hgg] at hgL ⊢
      have hne : gL ≠ g0 := by omega
      clear hU hgg kk
      refine hK.out _ _ (CC.out _ KA2.out) (fun hHeld2 => ?_)
      clear hK K hHeld1
      try simp only [Act.put, pu1, pu2, pu3]
      refine wpAnyG_ready (rs := [4]) (by kernel_rfl) (by simp) ?_
      refine AllReadyG.cons (o := ⟨some 119, .call { callee := .builtin .append, args := #[.tmp 115, .tmp 118], argTypes := #[24, 24] }, 24, _, _, none⟩) rfl (fun K hK => ?_) AllReadyG.nil
      obtain ⟨a4, n4, c4, A3, run, MN, ⟨aa4, rfl⟩, hn, kk⟩ := MM.app (HST.out _ KA2.out) (fun h => by simp at h) (by have := HHL.out; omega)
      refine step_app2 (by rfl) _ _ 24 24 (by rfl) _ _ (by rfl) (by rfl) run ?_
      have KA3 : Hid (Kp [] w5 A3) := kt B0.out MN.2.1
      clear MM
      have MM := MN
      have HNT : Hid (n4 = 0 + (k)) := hn
      have hgL := (kk.block _ (lt_of hgL) (by simp [blk]; exact hne)).trans hgL
      clear run kk hn MN
      refine hK.out _ _ (CC.out _ KA3.out) (fun hHeld3 => ?_)
      clear hK K hHeld2
      try simp only [Act.put, pu1, pu2, pu3]
      refine wpAnyG_ready (rs := [7]) (by kernel_rfl) (by simp) ?_
      refine AllReadyG.cons (o := ⟨some 122, .call { callee := .builtin .append, args := #[.tmp 119, .tmp 121], argTypes := #[24, 24] }, 24, _, _, none⟩) rfl (fun K hK => ?_) AllReadyG.nil
      obtain ⟨a7, n7, c7, A4, run, MN, ⟨aa7, rfl⟩, hn, kk⟩ := MM.app ((lit_rs hgL).src) (fun h => by simp at h) (by have := HHL.out; have := HNT.out; omega)
      refine step_app2 (by rfl) _ _ 24 24 (by rfl) _ _ (by rfl) (by rfl) run ?_
      have KA4 : Hid (Kp [] w5 A4) := kt B0.out MN.2.1
      clear MM
      have MM := MN
      have HNY : Hid (n7 = n4 + 1) := hn
      clear run kk hn MN
      refine hK.out _ _ (CC.out _ KA4.out) (fun hHeld4 => ?_)
      clear hK K hHeld3
      try simp only [Act.put, pu1, pu2, pu3]
      refine wpAnyG_ready (rs := [12]) (by kernel_rfl) (by simp) ?_
      refine AllReadyG.cons (o := ⟨some 127, .call { callee := .builtin .append, args := #[.tmp 122, .tmp 126], argTypes := #[24, 24] }, 24, _, _, none⟩) rfl (fun K hK => ?_) AllReadyG.nil
      obtain ⟨a12, n12, c12, A5, run, MN, ⟨aa12, rfl⟩, hn, kk⟩ := MM.app (HSD.out _ KA4.out) (fun h => by simp at h) (by have := HHL.out; have := HNT.out; have := HNY.out; omega)
      refine step_app2 (by rfl) _ _ 24 24 (by rfl) _ _ (by rfl) (by rfl) run ?_
      have KA5 : Hid (Kp [] w5 A5) := kt B0.out MN.2.1
      clear MM
      have MM := MN
      clear run kk hn MN
      refine hK.out _ _ (CC.out _ KA5.out) (fun hHeld5 => ?_)
      clear hK K hHeld4
      try simp only [Act.put, pu1, pu2, pu3]
      refine g_pure 13 (some 1) (.assign (.tmp 127)) ?_
      refine wpAnyG_free (by kernel_rfl) ?_
      refine wpAny_done (by kernel_rfl) ?_ _
      have HD := Hid.mk (HF.out _ _ _ _ KA5.out MM.rs)
      clear HF CC HST HSD KA0 KA1 KA2 KA3 KA4 KA5 MM B0 HNT HNY hgL hne
      obtain ⟨lT, zT, eT, bT⟩ := HD.out
      have HTl := tells_any w0 A5 q ([] ++ zs.take (k) ++ [((M, xn, xs) : It)] ++ zs.drop (k + 1)) (some aa12) n12 c12 (4, H, N, M, svg) lT zT (by have := HHL.out; omega)
      unfold av at HTl
      simp only at HTl
      obtain ⟨c0, c1, c2, c3, c4⟩ := HA.out _ eT
      have HFin : Hid (∀ W, Kp [] A5 W → Dn w0 w q zs (.returned (.tuple #[.slice (some aa12) n12 c12, .bool true])) W) := fun W kW => ⟨_, _, _, ([] ++ zs.take (k) ++ [((M, xn, xs) : It)] ++ zs.drop (k + 1)), rfl, lT.kept kW, zT.kept kW, (HE1.out _ eT).back kW, bT⟩
      clear lT zT eT bT HA HE1 HD
      go_wp2_with fail
      refine HTl.mono ?_
      rintro e w8 ⟨rfl, k8⟩
      have HF8 := Hid.mk (HFin.out w8 k8)
      clear HTl HFin k8
      go_wp2
      go_ret2
      exact HF8.out
    refine AllReadyG.cons (o := ⟨some 121, .buildSlice 24 1 #[(0, .tmp 120)], 24, _, _, none⟩) rfl (fun K hK => ?_) AllReadyG.nil
    go_simp
    have hgL : (A0.alloc (.cells #[.int .i64 M, .int .i64 xn, .string xs, .slice none 0 0] 36)).heap[A0.heap.size]? = some (.cells (ic (M, xn, xs)) 36 (0, 0)) := heap_new _ _
    obtain ⟨A1, hU⟩ : ∃ V, V = World.alloc A0 (.cells #[.int .i64 M, .int .i64 xn, .string xs, .slice none 0 0] 36) := ⟨_, rfl⟩
    have kk : Kp [] A0 A1 := by rw [hU]; exact (Kp.refl _ _).alloc _
    rw [← hU] at hgL ⊢
    have KA1 : Hid (Kp [] w5 A1) := kt KA0.out kk
    obtain ⟨gL, hgg⟩ : ∃ g, A0.heap.size = g := ⟨_, rfl⟩
    rw [hgg] at hgL ⊢
    clear hU hgg kk
    refine hK.out _ _ (CC.out _ KA1.out) (fun hHeld1 => ?_)
    clear hK K hHeld
    try simp only [Act.put, pu1, pu2, pu3]
    refine wpAnyG_ready (rs := [0]) (by kernel_rfl) (by simp) ?_
    refine AllReadyG.cons (o := ⟨some 115, .buildSlice 24 0 #[], 24, _, _, none⟩) rfl (fun K hK => ?_) AllReadyG.nil
    go_simp
    have MM := Ms.empty A1
    have hl0 : A1.heap.size < (A1.alloc (.cells #[] 36)).heap.size := lt_of (heap_new A1 (.cells #[] 36))
    obtain ⟨A2, hU⟩ : ∃ V, V = World.alloc A1 (.cells #[] 36) := ⟨_, rfl⟩
    rw [← hU] at MM hl0 ⊢
    have KA2 : Hid (Kp [] w5 A2) := kt KA1.out MM.2.1
    have B0 : Hid (Kp [] w5 A1) := KA1
    have hlL := lt_of hgL
    have hgL := (MM.2.1.block _ (lt_of hgL) (by simp)).trans hgL
    obtain ⟨g0, hg0⟩ : ∃ g, A1.heap.size = g := ⟨_, rfl⟩
    rw [hg0] at MM hl0 ⊢
    have hne : gL ≠ g0 := by omega
    clear hlL
    clear hU hg0
    refine hK.out _ _ (CC.out _ KA2.out) (fun hHeld2 => ?_)
    clear hK K hHeld1
    try simp only [Act.put, pu1, pu2, pu3]
    refine wpAnyG_ready (rs := [4]) (by kernel_rfl) (by simp) ?_
    refine AllReadyG.cons (o := ⟨some 119, .call { callee := .builtin .append, args := #[.tmp 115, .tmp 118], argTypes := #[24, 24] }, 24, _, _, none⟩) rfl (fun K hK => ?_) AllReadyG.nil
    obtain ⟨a4, n4, c4, A3, run, MN, ⟨aa4, rfl⟩, hn, kk⟩ := MM.app (HST.out _ KA2.out) (fun h => by simp at h) (by have := HHL.out; omega)
    refine step_app2 (by rfl) _ _ 24 24 (by rfl) _ _ (by rfl) (by rfl) run ?_
    have KA3 : Hid (Kp [] w5 A3) := kt B0.out MN.2.1
    clear MM
    have MM := MN
    have HNT : Hid (n4 = 0 + (k)) := hn
    have hgL := (kk.block _ (lt_of hgL) (by simp [blk]; exact hne)).trans hgL
    clear run kk hn MN
    refine hK.out _ _ (CC.out _ KA3.out) (fun hHeld3 => ?_)
    clear hK K hHeld2
    try simp only [Act.put, pu1, pu2, pu3]
    refine wpAnyG_ready (rs := [7]) (by kernel_rfl) (by simp) ?_
    refine AllReadyG.cons (o := ⟨some 122, .call { callee := .builtin .append, args := #[.tmp 119, .tmp 121], argTypes := #[24, 24] }, 24, _, _, none⟩) rfl (fun K hK => ?_) AllReadyG.nil
    obtain ⟨a7, n7, c7, A4, run, MN, ⟨aa7, rfl⟩, hn, kk⟩ := MM.app ((lit_rs hgL).src) (fun h => by simp at h) (by have := HHL.out; have := HNT.out; omega)
    refine step_app2 (by rfl) _ _ 24 24 (by rfl) _ _ (by rfl) (by rfl) run ?_
    have KA4 : Hid (Kp [] w5 A4) := kt B0.out MN.2.1
    clear MM
    have MM := MN
    have HNY : Hid (n7 = n4 + 1) := hn
    clear run kk hn MN
    refine hK.out _ _ (CC.out _ KA4.out) (fun hHeld4 => ?_)
    clear hK K hHeld3
    try simp only [Act.put, pu1, pu2, pu3]
    refine wpAnyG_ready (rs := [12]) (by kernel_rfl) (by simp) ?_
    refine AllReadyG.cons (o := ⟨some 127, .call { callee := .builtin .append, args := #[.tmp 122, .tmp 126], argTypes := #[24, 24] }, 24, _, _, none⟩) rfl (fun K hK => ?_) AllReadyG.nil
    obtain ⟨a12, n12, c12, A5, run, MN, ⟨aa12, rfl⟩, hn, kk⟩ := MM.app (HSD.out _ KA4.out) (fun h => by simp at h) (by have := HHL.out; have := HNT.out; have := HNY.out; omega)
    refine step_app2 (by rfl) _ _ 24 24 (by rfl) _ _ (by rfl) (by rfl) run ?_
    have KA5 : Hid (Kp [] w5 A5) := kt B0.out MN.2.1
    clear MM
    have MM := MN
    clear run kk hn MN
    refine hK.out _ _ (CC.out _ KA5.out) (fun hHeld5 => ?_)
    clear hK K hHeld4
    try simp only [Act.put, pu1, pu2, pu3]
    refine g_pure 13 (some 1) (.assign (.tmp 127)) ?_
    refine wpAnyG_free (by kernel_rfl) ?_
    refine wpAny_done (by kernel_rfl) ?_ _
    have HD := Hid.mk (HF.out _ _ _ _ KA5.out MM.rs)
    clear HF CC HST HSD KA0 KA1 KA2 KA3 KA4 KA5 MM B0 HNT HNY hgL hne
    obtain ⟨lT, zT, eT, bT⟩ := HD.out
    have HTl := tells_any w0 A5 q ([] ++ zs.take (k) ++ [((M, xn, xs) : It)] ++ zs.drop (k + 1)) (some aa12) n12 c12 (4, H, N, M, svg) lT zT (by have := HHL.out; omega)
    unfold av at HTl
    simp only at HTl
    obtain ⟨c0, c1, c2, c3, c4⟩ := HA.out _ eT
    have HFin : Hid (∀ W, Kp [] A5 W → Dn w0 w q zs (.returned (.tuple #[.slice (some aa12) n12 c12, .bool true])) W) := fun W kW => ⟨_, _, _, ([] ++ zs.take (k) ++ [((M, xn, xs) : It)] ++ zs.drop (k + 1)), rfl, lT.kept kW, zT.kept kW, (HE1.out _ eT).back kW, bT⟩
    clear lT zT eT bT HA HE1 HD
    go_wp2_with fail
    refine HTl.mono ?_
    rintro e w8 ⟨rfl, k8⟩
    have HF8 := Hid.mk (HFin.out w8 k8)
    clear HTl HFin k8
    go_wp2
    go_ret2
    exact HF8.out
end Go.Proofs.Ytpadnfpifldoaaa.Ints
