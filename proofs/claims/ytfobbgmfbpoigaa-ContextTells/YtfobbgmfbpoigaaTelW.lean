/-
  ContextTells.
-/
import Derived.Test.YtfobbgmfbpoigaaCtxk
import Derived.Test.YtfobbgmfbpoigaaShort
namespace Go.Proofs.Ytfobbgmfbpoigaa
open Go.RowKit Ints
set_option linter.unusedSimpArgs false
set_option linter.unusedVariables false

set_option maxRecDepth 100000 in
set_option maxHeartbeats 4000000 in
theorem tells_walk (w : World) (o0 : Option Addr) (n0 c0 : Nat) (F0 : Nat → Int × Bool) (r0 : Es w o0 n0 c0 F0)
    (s1 : Int) (m1 : ByteArray) (o1 : Option Addr) (n1 c1 : Nat) (l1 : List Att) (r1 : Rp w o1 n1 c1 l1) (b1 : n1 ≤ 140737488355328) (a2 : Int) (a3 a4 : Bool) :
    Calls Try.prog 4 #[.slice o0 n0 c0, cv s1 m1 o1 n1 c1, .int .i64 a2, .bool a3, .bool a4] w fun e w' => e = .returned (.bool true) ∧ Kp [] w w' := by
  have HC0 := fun W => cut_any W m1 20 (by omega)
  have hx0 := cut_size m1 20
  generalize (if 20 < m1.size then m1.extract 0 20 else m1) = x0 at HC0 hx0
  have HS : Hid (∀ W, Kp [] w W → Calls Try.prog 13 #[.slice o1 n1 c1] W fun e w' => ∃ ao' n' c', e = .returned (.slice ao' n' c') ∧ Mp W w' ao' n' c' (short l1)) := fun W k => short_any W l1 o1 n1 c1 (r1.kept k) b1
  have hsf := short_fits l1
  have hsl := short_len l1
  generalize short l1 = sl at HS hsf hsl
  have HE : Hid (Es w o0 n0 c0 F0) := r0
  have HK := known_any
  unfold cv
  clear r0 r1
  go_enter Try.func4, Try.ntmps4
  go_wp2_with fail
  have kA : Kp [] w (w.alloc (.cells #[.int .i64 s1, .string m1, .slice o1 n1 c1] 26)) := (Kp.refl _ _).alloc _
  have hb : (w.alloc (.cells #[.int .i64 s1, .string m1, .slice o1 n1 c1] 26)).heap[w.heap.size]? = some (.cells #[.int .i64 s1, .string m1, .slice o1 n1 c1] 26 (0, 0)) := heap_new _ _
  generalize w.alloc (.cells #[.int .i64 s1, .string m1, .slice o1 n1 c1] 26) = w1 at kA hb ⊢
  obtain ⟨gx, hgx⟩ : ∃ g, g = w.heap.size := ⟨_, rfl⟩
  rw [← hgx] at hb ⊢
  have hge : w.heap.size ≤ gx := by omega
  clear hgx
  have KA : Hid (Kp [] w w1) := kA
  have CC : Hid (∀ W, Kp [] w1 W → W.cell? ⟨gx, 1, none⟩ = some (.string m1) ∧ W.cell? ⟨gx, 2, none⟩ = some (.slice o1 n1 c1)) := fun W k => by
    have h := (k.block _ (lt_of hb) (by simp)).trans hb
    exact ⟨cell_of h 1, cell_of h 2⟩
  have HST : Hid (∀ U W a n c l, Kp [] w1 U → Mp U W a n c l → (W.cell? ⟨gx, 1, none⟩ = some (.string m1) ∧ W.frozen? ⟨gx, 1, none⟩ = false ∧ (W.setCell ⟨gx, 1, none⟩ (.string x0)).cell? ⟨gx, 2, none⟩ = some (.slice o1 n1 c1) ∧ (W.setCell ⟨gx, 1, none⟩ (.string x0)).frozen? ⟨gx, 2, none⟩ = false) ∧
      Hid (Kp [] w ((W.setCell ⟨gx, 1, none⟩ (.string x0)).setCell ⟨gx, 2, none⟩ (.slice a n c)) ∧ ((W.setCell ⟨gx, 1, none⟩ (.string x0)).setCell ⟨gx, 2, none⟩ (.slice a n c)).heap[gx]? = some (.cells #[.int .i64 s1, .string x0, .slice a n c] 26 (0, 0)) ∧ Rp ((W.setCell ⟨gx, 1, none⟩ (.string x0)).setCell ⟨gx, 2, none⟩ (.slice a n c)) a n c l ∧ n = l.length)) := fun U W a n c l kU M => by
    have kW : Kp [] w1 W := kt kU M.kp
    have h := (kW.block _ (lt_of hb) (by simp)).trans hb
    have h2 := setCell_block h 1 (.string x0)
    have h3 := setCell_block h2 2 (.slice a n c)
    have k3 : Kp [gx] W ((W.setCell ⟨gx, 1, none⟩ (.string x0)).setCell ⟨gx, 2, none⟩ (.slice a n c)) := Kp.setCell (Kp.setCell (Kp.refl _ _) (Or.inl (by simp)) _) (Or.inl (by simp)) _
    have hlt := lt_of hb
    have hsz := kU.size
    refine ⟨⟨cell_of h 1, frozen_of h 1, cell_of h2 2, frozen_of h2 2⟩, Kp.setCell (Kp.setCell (kt KA.out kW) (Or.inr hge) _) (Or.inr hge) _, h3, Rp.of_own (M.1.keep k3 (fun x hx hn => ?_)), M.len⟩
    have h5 := M.2.2 x hx
    simp at hn
    omega
  obtain ⟨U0, hU0⟩ : ∃ V, V = w1.drew := ⟨_, rfl⟩
  have K0 : Kp [] w1 U0 := by rw [hU0]; exact (Kp.refl _ _).drew
  clear kA
  refine wp_region_g (S := fun V => V.cell? ⟨gx, 1, none⟩ = some (.string m1) ∧ V.cell? ⟨gx, 2, none⟩ = some (.slice o1 n1 c1)) (T := [7, 8, 9]) (by kernel_rfl) (CC.out _ (Kp.refl [] w1).drew) (fun hHeld => ?_)
  rw [← hU0] at hHeld ⊢
  clear hU0
  refine g_pure 0 (some 12) (.fieldAddr 26 (.tmp 6) 1) ?_
  refine g_takeC 1 (some 13) (.load 9 (.tmp 12)) (by intro w hSw; (obtain ⟨q0, q1⟩ := hSw); go_simp; try with_reducible rfl) ?_
  refine g_pure 3 (some 15) (.fieldAddr 26 (.tmp 6) 2) ?_
  refine g_takeC 4 (some 16) (.load 24 (.tmp 15)) (by intro w hSw; (obtain ⟨q0, q1⟩ := hSw); go_simp; try with_reducible rfl) ?_
  refine wpAnyG_ready (rs := [2]) (by kernel_rfl) (by simp) ?_
  refine AllReadyG.cons (o := ⟨some 14, .call { callee := .value (.func 12), args := #[.tmp 13, .const (.int .i64 20)], argTypes := #[9, 3] }, 9, _, _, none⟩) rfl (fun K hK => ?_) AllReadyG.nil
  go_simp
  go_at_call 12
  refine (HC0 U0).mono ?_
  rintro e v1 ⟨rfl, hw⟩
  have hw2 := hw.symm
  clear hw
  subst hw2
  go_wp2_with fail
  refine hK.out _ _ (CC.out _ K0) (fun hHeld1 => ?_)
  clear hK K hHeld
  try simp only [Act.put, pu1, pu2, pu3]
  refine wpAnyG_ready (rs := [5]) (by kernel_rfl) (by simp) ?_
  refine AllReadyG.cons (o := ⟨some 17, .call { callee := .value (.func 13), args := #[.tmp 16], argTypes := #[24] }, 24, _, _, none⟩) rfl (fun K hK => ?_) AllReadyG.nil
  go_simp
  go_at_call 13
  refine (HS.out U0 (kt KA.out K0)).mono ?_
  rintro e v1 ⟨a5, n5, c5, rfl, M⟩
  have K1 : Hid (Kp [] w1 v1) := kt K0 M.kp
  obtain ⟨⟨t0, t1, t2, t3⟩, T⟩ := HST.out U0 v1 a5 n5 c5 sl K0 M
  clear M
  go_wp2_with fail
  refine hK.out _ _ (CC.out _ K1.out) (fun hHeld2 => ?_)
  clear hK K hHeld1
  try simp only [Act.put, pu1, pu2, pu3]
  refine g_pure 6 (some 18) (.fieldAddr 26 (.tmp 6) 1) ?_
  refine wpAnyG_free (by kernel_rfl) ?_
  refine wpAny_ready (rs := [7]) (by kernel_rfl) (by simp) ?_
  refine AllReady.cons (o := ⟨none, .store 9 (.tmp 18) (.tmp 14), 0, _, _, none⟩) rfl (fun K hK => ?_) AllReady.nil
  go_simp
  refine hK _ _ ?_
  clear hK K
  try simp only [Act.put, pu1, pu2, pu3]
  refine g_any 8 (some 19) (.fieldAddr 26 (.tmp 6) 2) ?_
  refine wpAny_ready (rs := [9]) (by kernel_rfl) (by simp) ?_
  refine AllReady.cons (o := ⟨none, .store 24 (.tmp 19) (.tmp 17), 0, _, _, none⟩) rfl (fun K hK => ?_) AllReady.nil
  go_simp
  refine hK _ _ ?_
  clear hK K
  try simp only [Act.put, pu1, pu2, pu3]
  refine wpAny_done (by kernel_rfl) ?_ _
  skip
  clear t0 t1 t2 t3 hHeld2 HST CC K0 K1 HC0 HS KA hb
  generalize (v1.setCell ⟨gx, 1, none⟩ (.string x0)).setCell ⟨gx, 2, none⟩ (.slice a5 n5 c5) = W2 at T ⊢
  obtain ⟨KW2, hx2, R2, hn5⟩ := T.out
  have K2 : Hid (Kp [] w W2) := KW2
  have HX2 : Hid (∀ W, Kp [] W2 W → W.heap[gx]? = some (.cells #[.int .i64 s1, .string x0, .slice a5 n5 c5] 26 (0, 0)) ∧ Rp W a5 n5 c5 sl) := fun W k => ⟨(k.block _ (lt_of hx2) (by simp)).trans hx2, R2.kept k⟩
  clear T KW2 hx2 R2
  have HWI := fun W => within_any W a2 1000 (by omega)
  generalize ((wi a2 1000 : Nat) : Int) = q at HWI
  have HKC : Hid (∀ W, Calls Try.prog 14 #[.int .i64 q] W fun e w' => ∃ ns s, e = .returned (.agg #[.int .i64 ns, .string s, .slice none 0 0]) ∧ s.size ≤ 100 ∧ Kp [] W w') := fun W => kctx_any W q
  go_wp2_with fail
  refine (HWI _).mono ?_
  rintro e v0 ⟨rfl, hv⟩
  have hv2 := hv.symm
  clear hv
  subst hv2
  go_wp2_with fail
  refine (HKC.out _).mono ?_
  rintro e v2 ⟨dns, dsz, rfl, hds, kk⟩
  have k3 : Kp [] W2 (v2.alloc (.cells #[.int .i64 dns, .string dsz, .slice none 0 0] 26)) := kk.alloc _
  have hy : (v2.alloc (.cells #[.int .i64 dns, .string dsz, .slice none 0 0] 26)).heap[v2.heap.size]? = some (.cells #[.int .i64 dns, .string dsz, .slice none 0 0] 26 (0, 0)) := heap_new _ _
  clear kk HWI HKC
  go_upto_region 3 with fail
  generalize v2.alloc (.cells #[.int .i64 dns, .string dsz, .slice none 0 0] 26) = W3 at k3 hy ⊢
  generalize v2.heap.size = gy at hy ⊢
  obtain ⟨hx, R3⟩ := HX2.out W3 k3
  have K3 : Hid (Kp [] w W3) := kt K2.out k3
  clear k3 HX2 K2
  have CC : Hid (∀ W, Kp [] W3 W → W.cell? ⟨gx, 0, none⟩ = some (.int .i64 s1) ∧ W.cell? ⟨gx, 1, none⟩ = some (.string x0) ∧ W.cell? ⟨gx, 2, none⟩ = some (.slice a5 n5 c5) ∧ W.cell? ⟨gy, 0, none⟩ = some (.int .i64 dns) ∧ W.cell? ⟨gy, 1, none⟩ = some (.string dsz) ∧ W.cell? ⟨gy, 2, none⟩ = some (.slice none 0 0)) := fun W k => by
    have h0 := (k.block _ (lt_of hx) (by simp)).trans hx
    have h1 := (k.block _ (lt_of hy) (by simp)).trans hy
    exact ⟨cell_of h0 0, cell_of h0 1, cell_of h0 2, cell_of h1 0, cell_of h1 1, cell_of h1 2⟩
  have HO1 : Hid (∀ W, Kp [] W3 W → Calls Try.prog 8 #[.agg #[.int .i64 s1, .string x0, .slice a5 n5 c5]] W fun e w' => e = .returned (.bool true) ∧ Kp [] W w') := fun W k => one_any W s1 x0 sl a5 n5 c5 (R3.kept k) (by omega) hsf
  have HO2 : Hid (∀ W, Calls Try.prog 8 #[.agg #[.int .i64 dns, .string dsz, .slice none 0 0]] W fun e w' => e = .returned (.bool true) ∧ Kp [] W w') := fun W => one_any W dns dsz [] none 0 0 (rp_nil W) (by omega) (fun a ha => by simp at ha)
  have HS1 : Hid (∀ W, Kp [] W3 W → Calls Try.prog 9 #[.slice o0 n0 c0, .pointer (some ⟨gx, 0, none⟩), .int .i64 a2, .bool a3] W fun e w' => e = .returned (.bool true) ∧ Kp [] W w') := fun W k =>
    same_any W o0 n0 c0 F0 _ (some (s1, x0)) a2 a3 (HE.out.kept (kt K3.out k)) (Or.inr ⟨gx, s1, x0, _, rfl, rfl, (k.block _ (lt_of hx) (by simp)).trans hx⟩) (fun x h => by simp only [Option.some.injEq] at h; subst h; simp only; omega)
  have HS2 : Hid (∀ W, Kp [] W3 W → Calls Try.prog 9 #[.slice o0 n0 c0, .pointer (some ⟨gy, 0, none⟩), .int .i64 a2, .bool a3] W fun e w' => e = .returned (.bool true) ∧ Kp [] W w') := fun W k =>
    same_any W o0 n0 c0 F0 _ (some (dns, dsz)) a2 a3 (HE.out.kept (kt K3.out k)) (Or.inr ⟨gy, dns, dsz, _, rfl, rfl, (k.block _ (lt_of hy) (by simp)).trans hy⟩) (fun x h => by simp only [Option.some.injEq] at h; subst h; simp only; omega)
  have HS0 : Hid (∀ W, Kp [] W3 W → Calls Try.prog 9 #[.slice o0 n0 c0, .pointer none, .int .i64 a2, .bool a3] W fun e w' => e = .returned (.bool true) ∧ Kp [] W w') := fun W k =>
    same_any W o0 n0 c0 F0 _ none a2 a3 (HE.out.kept (kt K3.out k)) (Or.inl ⟨rfl, rfl⟩) (fun x h => by cases h)
  clear hx hy R3 HE hsf hsl hn5 hx0 hds
  obtain ⟨d0, d1, d2, d3, d4, d5⟩ := CC.out W3 (Kp.refl _ _)
  go_wp2_with fail
  refine (HO1.out W3 (Kp.refl _ _)).mono ?_
  rintro e W4 ⟨rfl, k4⟩
  have K4 : Hid (Kp [] W3 W4) := k4
  clear d0 d1 d2 d3 d4 d5 k4 HO1
  obtain ⟨d0, d1, d2, d3, d4, d5⟩ := CC.out W4 K4.out
  go_wp2_with fail
  refine (HO2.out W4).mono ?_
  rintro e W5 ⟨rfl, k5⟩
  have K5 : Hid (Kp [] W3 W5) := kt K4.out k5
  clear d0 d1 d2 d3 d4 d5 k5 HO2 CC K4
  cases a4
  · go_wp2_with fail
    refine (HS0.out W5 K5.out).mono ?_
    rintro e W6 ⟨rfl, k6⟩
    have K6 : Hid (Kp [] W3 W6) := kt K5.out k6
    clear k6 HS0 HS1 HS2
    go_wp2_with fail
    refine (HK W6).mono ?_
    rintro e W7 ⟨rfl, k7⟩
    have K7 : Hid (Kp [] W3 W7) := kt K6.out k7
    clear k7 HK
    go_wp2
    go_ret
    exact ⟨rfl, kt K3.out K7.out⟩
  · go_wp2_with fail
    refine (HS2.out W5 K5.out).mono ?_
    rintro e W6 ⟨rfl, k6⟩
    have K6 : Hid (Kp [] W3 W6) := kt K5.out k6
    clear k6 HS0 HS2
    go_wp2_with fail
    refine (HS1.out W6 K6.out).mono ?_
    rintro e W8 ⟨rfl, k8⟩
    have K8 : Hid (Kp [] W3 W8) := kt K6.out k8
    clear k8 HS1
    go_wp2_with fail
    refine (HK W8).mono ?_
    rintro e W7 ⟨rfl, k7⟩
    have K7 : Hid (Kp [] W3 W7) := kt K8.out k7
    clear k7 HK
    go_wp2
    go_ret
    exact ⟨rfl, kt K3.out K7.out⟩

end Go.Proofs.Ytfobbgmfbpoigaa
