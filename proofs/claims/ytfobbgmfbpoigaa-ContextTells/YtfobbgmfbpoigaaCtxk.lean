/-
  The contexts that are asked most: which one belongs to a number.
-/
import Derived.Test.YtfobbgmfbpoigaaKn
namespace Go.Proofs.Ytfobbgmfbpoigaa
open Go.RowKit Ints
set_option linter.unusedSimpArgs false
set_option linter.unusedVariables false

def CT1 : List (List UInt8) := [[100, 105, 118], [116, 100], [116, 114], [116, 98, 111, 100, 121], [116, 97, 98, 108, 101], [116, 101, 109, 112, 108, 97, 116, 101], [98, 111, 100, 121], [104, 116, 109, 108], [104, 101, 97, 100], [116, 105, 116, 108, 101], [116, 101, 120, 116, 97, 114, 101, 97], [115, 116, 121, 108, 101], [102, 111, 114, 109], [112], [115, 118, 103], [110, 111, 115, 99, 114, 105, 112, 116], [112, 108, 97, 105, 110, 116, 101, 120, 116], [115, 101, 108, 101, 99, 116]]
def CT2 : List (List UInt8) := [[115, 118, 103], [102, 111, 114, 101, 105, 103, 110, 79, 98, 106, 101, 99, 116], [100, 101, 115, 99], [116, 105, 116, 108, 101], [103]]

theorem ct1_size : ∀ s, s ∈ CT1.map txt → s.size ≤ 100 := by
  have h : (CT1.map txt).all (fun s => decide (s.size ≤ 100)) = true := by decide +kernel
  intro s hs
  simpa using List.all_eq_true.1 h s hs

theorem ct2_size : ∀ s, s ∈ CT2.map txt → s.size ≤ 100 := by
  have h : (CT2.map txt).all (fun s => decide (s.size ≤ 100)) = true := by decide +kernel
  intro s hs
  simpa using List.all_eq_true.1 h s hs

set_option maxRecDepth 100000 in
set_option maxHeartbeats 2000000 in
theorem kctx_any (w : World) (i : Int) : Calls Try.prog 14 #[.int .i64 i] w fun e w' => ∃ ns s, e = .returned (cv ns s none 0 0) ∧ s.size ≤ 100 ∧ Kp [] w w' := by
  have hb : (w.alloc (.cells #[.int .i64 0, .string ⟨#[]⟩, .slice none 0 0] 26)).heap[w.heap.size]? = some (.cells #[.int .i64 0, .string ⟨#[]⟩, .slice none 0 0] 26 (0, 0)) := heap_new _ _
  have k0 : Kp [] w (w.alloc (.cells #[.int .i64 0, .string ⟨#[]⟩, .slice none 0 0] 26)) := (Kp.refl _ _).alloc _
  obtain ⟨W0, hW0⟩ : ∃ W, W = w.alloc (.cells #[.int .i64 0, .string ⟨#[]⟩, .slice none 0 0] 26) := ⟨_, rfl⟩
  rw [← hW0] at hb k0
  have hrb : w.heap.size ≤ w.heap.size := Nat.le_refl _
  obtain ⟨rb, hrbe⟩ : ∃ r, r = w.heap.size := ⟨_, rfl⟩
  rw [← hrbe] at hb
  have HR : Rb (W0.alloc (.cells (tx (CT1.map txt)).toArray 9)) (some ⟨W0.heap.size, 0, none⟩) 18 18 (tx (CT1.map txt)) := rb_lit W0 9 _ _ 18 rfl (by kernel_rfl) (by omega)
  have k1 : Kp [] W0 (W0.alloc (.cells (tx (CT1.map txt)).toArray 9)) := (Kp.refl _ _).alloc _
  go_enter Try.func14, Try.ntmps14
  go_upto_region 1 with fail
  rw [← hW0, ← hrbe]
  refine wp_region_lit ?_
  refine build_texts rfl 22 9 18 _ rfl (CT1.map txt) Try.underlying22 (by kernel_rfl) (by kernel_rfl) (by kernel_rfl) (by omega) (by omega) (by kernel_rfl) ?_
  generalize W0.alloc (.cells (tx (CT1.map txt)).toArray 9) = W1 at HR k1 ⊢
  generalize some (⟨W0.heap.size, 0, none⟩ : Addr) = a1 at HR ⊢
  have hb1 := (k1.block _ (lt_of hb) (by simp)).trans hb
  have hge : w.heap.size ≤ rb := by omega
  have K1 : Hid (Kp [] w W1) := kt k0 k1
  have e0 : W1.cell? ⟨rb, 0, none⟩ = some (.int .i64 0) := cell_of hb1 0
  have e1 : W1.cell? ⟨rb, 1, none⟩ = some (.string ⟨#[]⟩) := cell_of hb1 1
  have e2 : W1.cell? ⟨rb, 2, none⟩ = some (.slice none 0 0) := cell_of hb1 2
  have f0 : W1.frozen? ⟨rb, 0, none⟩ = false := frozen_of hb1 0
  have f1 : W1.frozen? ⟨rb, 1, none⟩ = false := frozen_of hb1 1
  have f2 : W1.frozen? ⟨rb, 2, none⟩ = false := frozen_of hb1 2
  have HB : Hid (∀ v ns s, Kp [] W1 v → Kp [] w (((v.setCell ⟨rb, 0, none⟩ (.int .i64 ns)).setCell ⟨rb, 1, none⟩ (.string s)).setCell ⟨rb, 2, none⟩ (.slice none 0 0)) ∧
      (((v.setCell ⟨rb, 0, none⟩ (.int .i64 ns)).setCell ⟨rb, 1, none⟩ (.string s)).setCell ⟨rb, 2, none⟩ (.slice none 0 0)).heap[rb]? = some (.cells #[.int .i64 ns, .string s, .slice none 0 0] 26 (0, 0))) := fun v ns s k => by
    have hb2 := (k.block _ (lt_of hb1) (by simp)).trans hb1
    exact ⟨Kp.setCell (Kp.setCell (Kp.setCell (kt K1.out k) (Or.inr hge) _) (Or.inr hge) _) (Or.inr hge) _, setCell_block (setCell_block (setCell_block hb2 0 _) 1 _) 2 _⟩
  clear hb k0 k1 hb1 hW0 hrbe hrb
  go_wp2_with fail
  refine (within_any _ i 1048576 (by omega)).mono ?_
  rintro e w2 ⟨rfl, hw⟩
  have hw2 := hw.symm
  clear hw
  subst hw2
  have hwi := wi_le i 1048576
  generalize wi i 1048576 = n at hwi
  by_cases h7 : n % 7 = 0
  · have h7' : (((n : Nat) : Int) % 7 == 0) = true := by rw [beq_iff_eq]; omega
    clear HR
    have hj : n / 7 % 5 < 5 := Nat.mod_lt _ (by omega)
    have HR2 : Rb (W1.alloc (.cells (tx (CT2.map txt)).toArray 9)) (some ⟨W1.heap.size, 0, none⟩) 5 5 (tx (CT2.map txt)) := rb_lit W1 9 _ _ 5 rfl (by kernel_rfl) (by omega)
    have k2 : Kp [] W1 (W1.alloc (.cells (tx (CT2.map txt)).toArray 9)) := (Kp.refl _ _).alloc _
    have hl : rb < W1.heap.size := block_lt_of_cell e0
    go_upto_region 4 with fail
    refine wp_region_lit ?_
    refine build_texts rfl 22 9 5 _ rfl (CT2.map txt) Try.underlying22 (by kernel_rfl) (by kernel_rfl) (by kernel_rfl) (by omega) (by omega) (by kernel_rfl) ?_
    have g0 : (W1.alloc (.cells (tx (CT2.map txt)).toArray 9)).cell? ⟨rb, 0, none⟩ = some (.int .i64 0) := by rw [k2.cell (a := ⟨rb, 0, none⟩) hl (by simp)]; exact e0
    have g1 : (W1.alloc (.cells (tx (CT2.map txt)).toArray 9)).cell? ⟨rb, 1, none⟩ = some (.string ⟨#[]⟩) := by rw [k2.cell (a := ⟨rb, 1, none⟩) hl (by simp)]; exact e1
    have g2 : (W1.alloc (.cells (tx (CT2.map txt)).toArray 9)).cell? ⟨rb, 2, none⟩ = some (.slice none 0 0) := by rw [k2.cell (a := ⟨rb, 2, none⟩) hl (by simp)]; exact e2
    have g3 : ∀ j, (W1.alloc (.cells (tx (CT2.map txt)).toArray 9)).frozen? ⟨rb, j, none⟩ = W1.frozen? ⟨rb, j, none⟩ := fun j => by
      simp only [World.frozen?]
      rw [Below.heap_alloc _ _ _ hl]
    have g4 := (g3 0).trans f0
    have g5 := (g3 1).trans f1
    have g6 := (g3 2).trans f2
    generalize W1.alloc (.cells (tx (CT2.map txt)).toArray 9) = W2 at HR2 k2 g0 g1 g2 g4 g5 g6 ⊢
    generalize some (⟨W1.heap.size, 0, none⟩ : Addr) = a2 at HR2 ⊢
    obtain ⟨b1, o1, rfl, h1⟩ := HR2.tx_at (n / 7 % 5) (by show _ < 5; exact hj)
    have hs := ct2_size _ (List.getElem_mem (show n / 7 % 5 < (CT2.map txt).length from hj))
    generalize (CT2.map txt)[n / 7 % 5]'(hj) = s at h1 hs
    have KK : Hid (Kp [] W1 W2) := k2
    clear HR2 k2 g3 e0 e1 e2 f0 f1 f2 hl
    go_wp2
    obtain ⟨kz, hZ⟩ := HB.out W2 2 s KK.out
    have z0 := cell_of hZ 0
    have z1 := cell_of hZ 1
    have z2 := cell_of hZ 2
    simp at z0 z1 z2
    refine bodyPost_ret (v := .agg #[.int .i64 2, .string s, .slice none 0 0]) (by simp [results, go_sem, z0, z1, z2]) rfl ⟨2, s, rfl, hs, kz⟩
  · have h7' : (((n : Nat) : Int) % 7 == 0) = false := by rw [beq_eq_false_iff_ne]; omega
    have hj : n % 18 < 18 := Nat.mod_lt _ (by omega)
    obtain ⟨b1, o1, rfl, h1⟩ := HR.tx_at (n % 18) (by show _ < 18; exact hj)
    have hs := ct1_size _ (List.getElem_mem (show n % 18 < (CT1.map txt).length from hj))
    generalize (CT1.map txt)[n % 18]'(hj) = s at h1 hs
    clear HR
    go_wp2
    obtain ⟨kz, hZ⟩ := HB.out W1 1 s (Kp.refl _ _)
    have z0 := cell_of hZ 0
    have z1 := cell_of hZ 1
    have z2 := cell_of hZ 2
    simp at z0 z1 z2
    refine bodyPost_ret (v := .agg #[.int .i64 1, .string s, .slice none 0 0]) (by simp [results, go_sem, z0, z1, z2]) rfl ⟨1, s, rfl, hs, kz⟩

end Go.Proofs.Ytfobbgmfbpoigaa
