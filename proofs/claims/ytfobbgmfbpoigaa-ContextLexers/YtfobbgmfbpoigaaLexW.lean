/-
  ContextLexers.
-/
import Derived.Test.YtfobbgmfbpoigaaKn
import Derived.Test.YtfobbgmfbpoigaaShort
namespace Go.Proofs.Ytfobbgmfbpoigaa
open Go.RowKit Ints
set_option linter.unusedSimpArgs false
set_option linter.unusedVariables false

theorem raw_range (s : ByteArray) (b : Bool) : 1 ≤ raw s b ∧ raw s b ≤ 4 := by
  obtain ⟨_, h1, h2, h3, h4, _⟩ := raw_told s
  cases b
  · exact ⟨h3, h4⟩
  · exact ⟨h1, h2⟩

set_option maxRecDepth 100000 in
set_option maxHeartbeats 2000000 in
theorem lexers_walk (w : World) (s0 : Int) (m0 : ByteArray) (o0 : Option Addr) (n0 c0 : Nat) (l0 : List Att) (r0 : Rp w o0 n0 c0 l0) (b0 : n0 ≤ 140737488355328)
    (s1 : Int) (m1 : ByteArray) (o1 : Option Addr) (n1 c1 : Nat) (l1 : List Att) (r1 : Rp w o1 n1 c1 l1) (b1 : n1 ≤ 140737488355328) (a2 : Bool) :
    Calls Try.prog 5 #[cv s0 m0 o0 n0 c0, cv s1 m1 o1 n1 c1, .bool a2] w fun e w' => e = .returned (.bool true) ∧ Kp [] w w' := by
  have HC0 := fun W => cut_any W m0 20 (by omega)
  have HC1 := fun W => cut_any W m1 20 (by omega)
  generalize (if 20 < m0.size then m0.extract 0 20 else m0) = x0 at HC0
  generalize (if 20 < m1.size then m1.extract 0 20 else m1) = x1 at HC1
  have HS : Hid (∀ W, Kp [] w W → Calls Try.prog 13 #[.slice o1 n1 c1] W fun e w' => ∃ ao' n' c', e = .returned (.slice ao' n' c') ∧ Kp [] W w') := fun W k => by
    refine (short_any W l1 o1 n1 c1 (r1.kept k) b1).mono ?_
    rintro e w' ⟨a', n', c', rfl, M⟩
    exact ⟨a', n', c', rfl, M.kp⟩
  have HX : Hid (∀ W ao n c, Calls Try.prog 16 #[.agg #[.int .i64 1, .string x0, .slice ao n c], .bool a2] W fun e w' => e = .returned (.int .i64 (raw x0 a2)) ∧ Kp [] W w') := fun W ao n c => lexer_any W 1 x0 ao n c a2
  have HZ : Hid (∀ W ao n c, Calls Try.prog 16 #[.agg #[.int .i64 2, .string x0, .slice ao n c], .bool a2] W fun e w' => e = .returned (.int .i64 1) ∧ Kp [] W w') := fun W ao n c => lexer_any W 2 x0 ao n c a2
  obtain ⟨q1, q2⟩ := raw_range x0 a2
  generalize raw x0 a2 = R at HX q1 q2
  have HK := known_any
  unfold cv
  clear r0 r1
  go_enter Try.func5, Try.ntmps5
  go_wp2_with fail
  have kA : Kp [] w ((w.alloc (.cells #[.int .i64 s0, .string m0, .slice o0 n0 c0] 26)).alloc (.cells #[.int .i64 s1, .string m1, .slice o1 n1 c1] 26)) := ((Kp.refl _ _).alloc _).alloc _
  have hb0 : ((w.alloc (.cells #[.int .i64 s0, .string m0, .slice o0 n0 c0] 26)).alloc (.cells #[.int .i64 s1, .string m1, .slice o1 n1 c1] 26)).heap[w.heap.size]? = some (.cells #[.int .i64 s0, .string m0, .slice o0 n0 c0] 26 (0, 0)) := by
    rw [Below.heap_alloc _ _ _ (by simp)]
    exact heap_new _ _
  have hb1 : ((w.alloc (.cells #[.int .i64 s0, .string m0, .slice o0 n0 c0] 26)).alloc (.cells #[.int .i64 s1, .string m1, .slice o1 n1 c1] 26)).heap[w.heap.size + 1]? = some (.cells #[.int .i64 s1, .string m1, .slice o1 n1 c1] 26 (0, 0)) := heap_new' _ _ _ (by simp)
  generalize (w.alloc (.cells #[.int .i64 s0, .string m0, .slice o0 n0 c0] 26)).alloc (.cells #[.int .i64 s1, .string m1, .slice o1 n1 c1] 26) = w1 at kA hb0 hb1
  have hg0 : w.heap.size ≤ w.heap.size := Nat.le_refl _
  have hg1 : w.heap.size ≤ w.heap.size + 1 := by omega
  have hne : w.heap.size ≠ w.heap.size + 1 := by omega
  generalize w.heap.size + 1 = gy at hb1 hg1 hne
  obtain ⟨gx, hgx⟩ : ∃ g, g = w.heap.size := ⟨_, rfl⟩
  rw [← hgx] at hb0 hne
  have hgx2 : w.heap.size ≤ gx := by omega
  rw [← hgx]
  clear hgx hg0
  have CC : Hid (∀ W, Kp [] w1 W → W.cell? ⟨gx, 1, none⟩ = some (.string m0) ∧ W.cell? ⟨gy, 1, none⟩ = some (.string m1)) := fun W kW => by
    have h0 := (kW.block _ (lt_of hb0) (by simp)).trans hb0
    have h1 := (kW.block _ (lt_of hb1) (by simp)).trans hb1
    exact ⟨cell_of h0 1, cell_of h1 1⟩
  obtain ⟨U0, hU0⟩ : ∃ V, V = w1.drew := ⟨_, rfl⟩
  have K0 : Kp [] w1 U0 := by rw [hU0]; exact (Kp.refl _ _).drew
  have B0 := (K0.block _ (lt_of hb0) (by simp)).trans hb0
  have B1 := (K0.block _ (lt_of hb1) (by simp)).trans hb1
  have e0 : U0.cell? ⟨gx, 1, none⟩ = some (.string m0) := cell_of B0 1
  have f0 : U0.frozen? ⟨gx, 1, none⟩ = false := frozen_of B0 1
  have D0 := setCell_block B0 1 (.string x0)
  have B1' : (U0.setCell ⟨gx, 1, none⟩ (.string x0)).heap[gy]? = some (.cells #[.int .i64 s1, .string m1, .slice o1 n1 c1] 26 (0, 0)) := by
    rw [Below.heap_setCell _ _ _ _ (fun h => hne h.symm)]
    exact B1
  have e1 : (U0.setCell ⟨gx, 1, none⟩ (.string x0)).cell? ⟨gy, 1, none⟩ = some (.string m1) := cell_of B1' 1
  have f1 : (U0.setCell ⟨gx, 1, none⟩ (.string x0)).frozen? ⟨gy, 1, none⟩ = false := frozen_of B1' 1
  have D1 := setCell_block B1' 1 (.string x1)
  have D0' := (show ∀ o, (U0.setCell ⟨gx, 1, none⟩ (.string x0)).heap[gx]? = some o → ((U0.setCell ⟨gx, 1, none⟩ (.string x0)).setCell ⟨gy, 1, none⟩ (.string x1)).heap[gx]? = some o from fun o h => by
    rw [Below.heap_setCell _ _ _ _ (fun h => hne h)]
    exact h) _ D0
  have KW : Hid (Kp [] w ((U0.setCell ⟨gx, 1, none⟩ (.string x0)).setCell ⟨gy, 1, none⟩ (.string x1))) := ((kt kA K0).setCell (Or.inr hgx2) _).setCell (Or.inr hg1) _
  have HCell : Hid (∀ W, Kp [] ((U0.setCell ⟨gx, 1, none⟩ (.string x0)).setCell ⟨gy, 1, none⟩ (.string x1)) W → W.cell? ⟨gx, 1, none⟩ = some (.string x0) ∧ W.cell? ⟨gy, 2, none⟩ = some (.slice o1 n1 c1)) := fun W k => by
    have h0 := (k.block _ (lt_of D0') (by simp)).trans D0'
    have h1 := (k.block _ (lt_of D1) (by simp)).trans D1
    exact ⟨cell_of h0 1, cell_of h1 2⟩
  clear B0 B1 D0 B1' D1 D0' hb0 hb1 kA
  refine wp_region_g (S := fun V => V.cell? ⟨gx, 1, none⟩ = some (.string m0) ∧ V.cell? ⟨gy, 1, none⟩ = some (.string m1)) (T := [7, 8, 9]) (by kernel_rfl) (CC.out _ (Kp.refl [] w1).drew) (fun hHeld => ?_)
  rw [← hU0] at hHeld ⊢
  clear hU0
  refine g_pure 0 (some 10) (.fieldAddr 26 (.tmp 3) 1) ?_
  refine g_takeC 1 (some 11) (.load 9 (.tmp 10)) (by intro w hSw; (obtain ⟨q0, q1⟩ := hSw); go_simp; try with_reducible rfl) ?_
  refine g_pure 3 (some 13) (.fieldAddr 26 (.tmp 4) 1) ?_
  refine g_takeC 4 (some 14) (.load 9 (.tmp 13)) (by intro w hSw; (obtain ⟨q0, q1⟩ := hSw); go_simp; try with_reducible rfl) ?_
  refine wpAnyG_ready (rs := [2]) (by kernel_rfl) (by simp) ?_
  refine AllReadyG.cons (o := ⟨some 12, .call { callee := .value (.func 12), args := #[.tmp 11, .const (.int .i64 20)], argTypes := #[9, 3] }, 9, _, _, none⟩) rfl (fun K hK => ?_) AllReadyG.nil
  go_simp
  go_at_call 12
  refine (HC0 U0).mono ?_
  rintro e v1 ⟨rfl, hw⟩
  have hw2 := hw.symm
  clear hw
  subst hw2
  go_wp2_with fail
  refine hK.out _ _ (CC.out _ K0) (fun hHeld1 => ?_)
  clear hK K hHeld
  try simp only [Act.put, pu1, pu2, pu3]
  refine g_pure 6 (some 16) (.fieldAddr 26 (.tmp 3) 1) ?_
  refine wpAnyG_ready (rs := [5]) (by kernel_rfl) (by simp) ?_
  refine AllReadyG.cons (o := ⟨some 15, .call { callee := .value (.func 12), args := #[.tmp 14, .const (.int .i64 20)], argTypes := #[9, 3] }, 9, _, _, none⟩) rfl (fun K hK => ?_) AllReadyG.nil
  go_simp
  go_at_call 12
  refine (HC1 U0).mono ?_
  rintro e v1 ⟨rfl, hw⟩
  have hw2 := hw.symm
  clear hw
  subst hw2
  go_wp2_with fail
  refine hK.out _ _ (CC.out _ K0) (fun hHeld2 => ?_)
  clear hK K hHeld1
  try simp only [Act.put, pu1, pu2, pu3]
  refine wpAnyG_free (by kernel_rfl) ?_
  refine wpAny_ready (rs := [7]) (by kernel_rfl) (by simp) ?_
  refine AllReady.cons (o := ⟨none, .store 9 (.tmp 16) (.tmp 12), 0, _, _, none⟩) rfl (fun K hK => ?_) AllReady.nil
  go_simp
  refine hK _ _ ?_
  clear hK K
  try simp only [Act.put, pu1, pu2, pu3]
  refine g_any 8 (some 17) (.fieldAddr 26 (.tmp 4) 1) ?_
  refine wpAny_ready (rs := [9]) (by kernel_rfl) (by simp) ?_
  refine AllReady.cons (o := ⟨none, .store 9 (.tmp 17) (.tmp 15), 0, _, _, none⟩) rfl (fun K hK => ?_) AllReady.nil
  go_simp
  refine hK _ _ ?_
  clear hK K
  try simp only [Act.put, pu1, pu2, pu3]
  refine wpAny_done (by kernel_rfl) ?_ _
  skip
  clear CC K0 e0 f0 e1 f1 HC0 HC1
  generalize (U0.setCell ⟨gx, 1, none⟩ (.string x0)).setCell ⟨gy, 1, none⟩ (.string x1) = W2 at KW HCell
  obtain ⟨d0, d1⟩ := HCell.out W2 (Kp.refl _ _)
  go_wp2_with fail
  have k3 : Kp [] W2 (W2.alloc (.cells #[.int .i64 1, .string x0, .slice none 0 0] 26)) := (Kp.refl _ _).alloc _
  have hx3 : (W2.alloc (.cells #[.int .i64 1, .string x0, .slice none 0 0] 26)).heap[W2.heap.size]? = some (.cells #[.int .i64 1, .string x0, .slice none 0 0] 26 (0, 0)) := heap_new _ _
  generalize W2.alloc (.cells #[.int .i64 1, .string x0, .slice none 0 0] 26) = W3 at k3 hx3
  generalize W2.heap.size = xb at hx3
  have K3 : Hid (Kp [] w W3) := kt KW.out k3
  have HC3 : Hid (∀ W, Kp [] W3 W → W.cell? ⟨gx, 1, none⟩ = some (.string x0) ∧ W.cell? ⟨gy, 2, none⟩ = some (.slice o1 n1 c1)) := fun W k => HCell.out W (kt k3 k)
  have HX3 : Hid (∀ W, Kp [] W3 W → W.heap[xb]? = some (.cells #[.int .i64 1, .string x0, .slice none 0 0] 26 (0, 0))) := fun W k => by rw [k.block _ (lt_of hx3) (by simp)]; exact hx3
  have HS3 : Hid (∀ W, Kp [] W3 W → Calls Try.prog 13 #[.slice o1 n1 c1] W fun e w' => ∃ ao' n' c', e = .returned (.slice ao' n' c') ∧ Kp [] W w') := fun W k => HS.out W (kt K3.out k)
  clear HCell KW d0 d1 HS hx3 k3
  have HB : Hid (∀ v (a : Option Addr) (n c : Nat), Kp [] W3 v → v.heap[W3.heap.size]? = some (.cells #[.int .i64 0, .string ⟨#[]⟩, .slice none 0 0] 26 (0, 0)) → Kp [] W3 (((v.setCell ⟨W3.heap.size, 0, none⟩ (.int .i64 1)).setCell ⟨W3.heap.size, 1, none⟩ (.string x0)).setCell ⟨W3.heap.size, 2, none⟩ (.slice a n c)) ∧
      (((v.setCell ⟨W3.heap.size, 0, none⟩ (.int .i64 1)).setCell ⟨W3.heap.size, 1, none⟩ (.string x0)).setCell ⟨W3.heap.size, 2, none⟩ (.slice a n c)).heap[W3.heap.size]? = some (.cells #[.int .i64 1, .string x0, .slice a n c] 26 (0, 0))) := fun v a n c k hb =>
    ⟨Kp.setCell (Kp.setCell (Kp.setCell k (Or.inr (Nat.le_refl _)) _) (Or.inr (Nat.le_refl _)) _) (Or.inr (Nat.le_refl _)) _, setCell_block (setCell_block (setCell_block hb 0 _) 1 _) 2 _⟩
  go_region_held3 (fun V => V.cell? ⟨gx, 1, none⟩ = some (.string x0) ∧ V.cell? ⟨gy, 2, none⟩ = some (.slice o1 n1 c1))
    (first
      | with_reducible exact HC3.out _ (S1.out.alloc _)
      | with_reducible exact HC3.out _ S1.out
      | with_reducible exact HC3.out _ (HB.out _ _ _ _ S1.out S2.out).1
      | with_reducible exact HC3.out _ ((Kp.refl [] W3).drew.alloc _)
      | with_reducible exact HC3.out _ ((Kp.refl [] W3).alloc _).drew
      | with_reducible exact HC3.out _ (Kp.refl [] W3).drew)
    (first
      | (go_at_call 13; refine (HS3.out _ (Kp.refl [] W3).drew).mono ?_; rintro e v1 ⟨a5, n5, c5, rfl, kk⟩; have S1 : Hid (Kp [] W3 v1) := kt (Kp.refl [] W3).drew kk; clear kk)
      | (go_at_call 13; refine (HS3.out _ ((Kp.refl [] W3).alloc _).drew).mono ?_; rintro e v1 ⟨a5, n5, c5, rfl, kk⟩; have S1 : Hid (Kp [] W3 v1) := kt ((Kp.refl [] W3).alloc _).drew kk; have S2 : Hid (v1.heap[W3.heap.size]? = some (.cells #[.int .i64 0, .string ⟨#[]⟩, .slice none 0 0] 26 (0, 0))) := (by show _ = _; rw [kk.block _ (by simp) (by simp)]; exact heap_new _ _); clear kk; have u0 := cell_of S2.out 0; have u1 := cell_of S2.out 1; have u2 := cell_of S2.out 2; have u3 := frozen_of S2.out 0; have u4 := frozen_of S2.out 1; have u5 := frozen_of S2.out 2))
  all_goals first
    | (have KY : Hid (Kp [] W3 (((v1.setCell ⟨W3.heap.size, 0, none⟩ (.int .i64 1)).setCell ⟨W3.heap.size, 1, none⟩ (.string x0)).setCell ⟨W3.heap.size, 2, none⟩ (.slice a5 n5 c5))) := (HB.out _ _ _ _ S1.out S2.out).1
       have HY : Hid ((((v1.setCell ⟨W3.heap.size, 0, none⟩ (.int .i64 1)).setCell ⟨W3.heap.size, 1, none⟩ (.string x0)).setCell ⟨W3.heap.size, 2, none⟩ (.slice a5 n5 c5)).heap[W3.heap.size]? = some (.cells #[.int .i64 1, .string x0, .slice a5 n5 c5] 26 (0, 0))) := (HB.out _ _ _ _ S1.out S2.out).2
       clear HB HS3 S1 S2 u0 u1 u2 u3 u4 u5
       generalize ((v1.setCell ⟨W3.heap.size, 0, none⟩ (.int .i64 1)).setCell ⟨W3.heap.size, 1, none⟩ (.string x0)).setCell ⟨W3.heap.size, 2, none⟩ (.slice a5 n5 c5) = W4 at KY HY ⊢
       generalize W3.heap.size = yb at HY ⊢)
    | (have KY : Hid (Kp [] W3 (v1.alloc (.cells #[.int .i64 1, .string x0, .slice a5 n5 c5] 26))) := S1.out.alloc _
       have HY : Hid ((v1.alloc (.cells #[.int .i64 1, .string x0, .slice a5 n5 c5] 26)).heap[v1.heap.size]? = some (.cells #[.int .i64 1, .string x0, .slice a5 n5 c5] 26 (0, 0))) := heap_new _ _
       clear HB HS3 S1
       generalize v1.alloc (.cells #[.int .i64 1, .string x0, .slice a5 n5 c5] 26) = W4 at KY HY ⊢
       generalize v1.heap.size = yb at HY ⊢)
  all_goals
    obtain ⟨d0, d1⟩ := HC3.out W4 KY.out
    have hxb := HX3.out W4 KY.out
    clear HC3 HX3
    go_wp2_with fail
    have k5 : Kp [] W4 (W4.alloc (.cells #[.int .i64 2, .string x0, .slice none 0 0] 26)) := (Kp.refl _ _).alloc _
    have hz5 : (W4.alloc (.cells #[.int .i64 2, .string x0, .slice none 0 0] 26)).heap[W4.heap.size]? = some (.cells #[.int .i64 2, .string x0, .slice none 0 0] 26 (0, 0)) := heap_new _ _
    generalize W4.alloc (.cells #[.int .i64 2, .string x0, .slice none 0 0] 26) = W5 at k5 hz5 ⊢
    generalize W4.heap.size = zb at hz5 ⊢
    have K5 : Hid (Kp [] w W5) := kt (kt K3.out KY.out) k5
    have hx5 := (k5.block _ (lt_of hxb) (by simp)).trans hxb
    have hy5 := (k5.block _ (lt_of HY.out) (by simp)).trans HY.out
    have CC : Hid (∀ W, Kp [] W5 W → W.cell? ⟨xb, 0, none⟩ = some (.int .i64 1) ∧ W.cell? ⟨xb, 1, none⟩ = some (.string x0) ∧ W.cell? ⟨xb, 2, none⟩ = some (.slice none 0 0) ∧ W.cell? ⟨yb, 0, none⟩ = some (.int .i64 1) ∧ W.cell? ⟨yb, 1, none⟩ = some (.string x0) ∧ W.cell? ⟨yb, 2, none⟩ = some (.slice a5 n5 c5) ∧ W.cell? ⟨zb, 0, none⟩ = some (.int .i64 2) ∧ W.cell? ⟨zb, 1, none⟩ = some (.string x0) ∧ W.cell? ⟨zb, 2, none⟩ = some (.slice none 0 0)) := fun W k => by
      have h0 := (k.block _ (lt_of hx5) (by simp)).trans hx5
      have h1 := (k.block _ (lt_of hy5) (by simp)).trans hy5
      have h2 := (k.block _ (lt_of hz5) (by simp)).trans hz5
      exact ⟨cell_of h0 0, cell_of h0 1, cell_of h0 2, cell_of h1 0, cell_of h1 1, cell_of h1 2, cell_of h2 0, cell_of h2 1, cell_of h2 2⟩
    clear d0 d1 hxb HY KY K3 k5 hz5 hx5 hy5
    obtain ⟨V0, hV0⟩ : ∃ V, V = W5.drew := ⟨_, rfl⟩
    have K0 : Kp [] W5 V0 := by rw [hV0]; exact (Kp.refl _ _).drew
    refine wp_region_g (S := fun V => V.cell? ⟨xb, 0, none⟩ = some (.int .i64 1) ∧ V.cell? ⟨xb, 1, none⟩ = some (.string x0) ∧ V.cell? ⟨xb, 2, none⟩ = some (.slice none 0 0) ∧ V.cell? ⟨yb, 0, none⟩ = some (.int .i64 1) ∧ V.cell? ⟨yb, 1, none⟩ = some (.string x0) ∧ V.cell? ⟨yb, 2, none⟩ = some (.slice a5 n5 c5) ∧ V.cell? ⟨zb, 0, none⟩ = some (.int .i64 2) ∧ V.cell? ⟨zb, 1, none⟩ = some (.string x0) ∧ V.cell? ⟨zb, 2, none⟩ = some (.slice none 0 0)) (T := []) (by kernel_rfl) (CC.out _ (Kp.refl [] W5).drew) (fun hHeld => ?_)
    rw [← hV0] at hHeld ⊢
    clear hV0
    refine g_take 0 (some 30) (.load 26 (.tmp 7)) (by intro w hSw; (obtain ⟨s0, s1, s2, s3, s4, s5, s6, s7, s8⟩ := hSw); go_simp; try with_reducible rfl) ?_
    refine g_pure 1 (some 31) (.move (.tmp 2)) ?_
    refine g_take 3 (some 33) (.load 26 (.tmp 8)) (by intro w hSw; (obtain ⟨s0, s1, s2, s3, s4, s5, s6, s7, s8⟩ := hSw); go_simp; try with_reducible rfl) ?_
    refine g_pure 4 (some 34) (.move (.tmp 2)) ?_
    refine wpAnyG_ready (rs := [2]) (by kernel_rfl) (by simp) ?_
    refine AllReadyG.cons (o := ⟨some 32, .call { callee := .value (.func 16), args := #[.tmp 30, .tmp 31], argTypes := #[26, 4] }, 3, _, _, none⟩) rfl (fun K hK => ?_) AllReadyG.nil
    go_simp
    go_at_call 16
    refine (HX.out _ _ _ _).mono ?_
    rintro e v1 ⟨rfl, kk⟩
    have K6 : Hid (Kp [] W5 v1) := kt K0 kk
    clear kk
    go_wp2_with fail
    refine hK.out _ _ (CC.out _ K6.out) (fun hHeld1 => ?_)
    clear hK K hHeld
    try simp only [Act.put, pu1, pu2, pu3]
    refine wpAnyG_ready (rs := [5]) (by kernel_rfl) (by simp) ?_
    refine AllReadyG.cons (o := ⟨some 35, .call { callee := .value (.func 16), args := #[.tmp 33, .tmp 34], argTypes := #[26, 4] }, 3, _, _, none⟩) rfl (fun K hK => ?_) AllReadyG.nil
    go_simp
    go_at_call 16
    refine (HX.out _ _ _ _).mono ?_
    rintro e v2 ⟨rfl, kk⟩
    have K7 : Hid (Kp [] W5 v2) := kt K6.out kk
    clear kk
    go_wp2_with fail
    refine hK.out _ _ (CC.out _ K7.out) (fun hHeld2 => ?_)
    clear hK K hHeld1
    try simp only [Act.put, pu1, pu2, pu3]
    refine g_pure 6 (some 36) (.binOp .eql 3 (.tmp 32) (.tmp 35) 3) ?_
    refine g_pure 7 (some 37) (.move (.tmp 36)) ?_
    refine g_take 8 (some 38) (.load 26 (.tmp 9)) (by intro w hSw; (obtain ⟨s0, s1, s2, s3, s4, s5, s6, s7, s8⟩ := hSw); go_simp; try with_reducible rfl) ?_
    refine g_pure 9 (some 39) (.move (.tmp 2)) ?_
    refine wpAnyG_ready (rs := [10]) (by kernel_rfl) (by simp) ?_
    refine AllReadyG.cons (o := ⟨some 40, .call { callee := .value (.func 16), args := #[.tmp 38, .tmp 39], argTypes := #[26, 4] }, 3, _, _, some (7, true)⟩) rfl (fun K hK => ?_) AllReadyG.nil
    go_simp
    go_at_call 16
    refine (HZ.out _ _ _ _).mono ?_
    rintro e v3 ⟨rfl, kk⟩
    have K8 : Hid (Kp [] W5 v3) := kt K7.out kk
    clear kk
    go_wp2_with fail
    refine hK.out _ _ (CC.out _ K8.out) (fun hHeld3 => ?_)
    clear hK K hHeld2
    try simp only [Act.put, pu1, pu2, pu3]
    refine g_pure 11 (some 41) (.binOp .eql 3 (.tmp 40) (.const (.int .i64 1)) 3) ?_
    refine g_pure 12 (some 42) (.pick (.tmp 37) (.tmp 41) (.const (.bool false))) ?_
    refine g_pure 13 (some 43) (.move (.tmp 42)) ?_
    refine g_take 14 (some 44) (.load 26 (.tmp 7)) (by intro w hSw; (obtain ⟨s0, s1, s2, s3, s4, s5, s6, s7, s8⟩ := hSw); go_simp; try with_reducible rfl) ?_
    refine g_pure 15 (some 45) (.move (.tmp 2)) ?_
    refine wpAnyG_ready (rs := [16]) (by kernel_rfl) (by simp) ?_
    refine AllReadyG.cons (o := ⟨some 46, .call { callee := .value (.func 16), args := #[.tmp 44, .tmp 45], argTypes := #[26, 4] }, 3, _, _, some (13, true)⟩) rfl (fun K hK => ?_) AllReadyG.nil
    go_simp
    go_at_call 16
    refine (HX.out _ _ _ _).mono ?_
    rintro e v4 ⟨rfl, kk⟩
    have K9 : Hid (Kp [] W5 v4) := kt K8.out kk
    clear kk
    go_wp2_with fail
    refine hK.out _ _ (CC.out _ K9.out) (fun hHeld4 => ?_)
    clear hK K hHeld3
    try simp only [Act.put, pu1, pu2, pu3]
    refine g_pure 17 (some 47) (.binOp .geq 3 (.tmp 46) (.const (.int .i64 1)) 3) ?_
    refine g_pure 18 (some 48) (.pick (.tmp 43) (.tmp 47) (.const (.bool false))) ?_
    refine g_pure 19 (some 49) (.move (.tmp 48)) ?_
    refine g_take 20 (some 50) (.load 26 (.tmp 7)) (by intro w hSw; (obtain ⟨s0, s1, s2, s3, s4, s5, s6, s7, s8⟩ := hSw); go_simp; try with_reducible rfl) ?_
    refine g_pure 21 (some 51) (.move (.tmp 2)) ?_
    refine wpAnyG_ready (rs := [22]) (by kernel_rfl) (by simp) ?_
    refine AllReadyG.cons (o := ⟨some 52, .call { callee := .value (.func 16), args := #[.tmp 50, .tmp 51], argTypes := #[26, 4] }, 3, _, _, some (19, true)⟩) rfl (fun K hK => ?_) AllReadyG.nil
    go_simp
    go_at_call 16
    refine (HX.out _ _ _ _).mono ?_
    rintro e v5 ⟨rfl, kk⟩
    have K10 : Hid (Kp [] W5 v5) := kt K9.out kk
    clear kk
    go_wp2_with fail
    refine hK.out _ _ (CC.out _ K10.out) (fun hHeld5 => ?_)
    clear hK K hHeld4
    try simp only [Act.put, pu1, pu2, pu3]
    refine g_pure 23 (some 53) (.binOp .leq 3 (.tmp 52) (.const (.int .i64 4)) 3) ?_
    refine g_pure 24 (some 54) (.pick (.tmp 49) (.tmp 53) (.const (.bool false))) ?_
    refine g_pure 25 (some 55) (.move (.tmp 54)) ?_
    refine wpAnyG_ready (rs := [26]) (by kernel_rfl) (by simp) ?_
    refine AllReadyG.cons (o := ⟨some 56, .call { callee := .value (.func 11), args := #[], argTypes := #[] }, 4, _, _, some (25, true)⟩) rfl (fun K hK => ?_) AllReadyG.nil
    go_simp
    go_at_call 11
    refine (HK _).mono ?_
    rintro e v6 ⟨rfl, kk⟩
    have K11 : Hid (Kp [] W5 v6) := kt K10.out kk
    clear kk
    go_wp2_with fail
    refine hK.out _ _ (CC.out _ K11.out) (fun hHeld6 => ?_)
    clear hK K hHeld5
    try simp only [Act.put, pu1, pu2, pu3]
    refine g_pure 27 (some 57) (.pick (.tmp 55) (.tmp 56) (.const (.bool false))) ?_
    refine g_pure 28 (some 6) (.assign (.tmp 57)) ?_
    refine wpAnyG_free (by kernel_rfl) ?_
    refine wpAny_done (by kernel_rfl) ?_ _
    skip
    have KE : Hid (Kp [] w v6) := kt K5.out K11.out
    clear K0 CC
    go_wp2
    go_ret
    exact ⟨rfl, KE.out⟩

end Go.Proofs.Ytfobbgmfbpoigaa
