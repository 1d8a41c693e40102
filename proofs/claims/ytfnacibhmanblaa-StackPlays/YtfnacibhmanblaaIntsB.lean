/-
  What the methods All, Put, Cut and Pop of a pile of ints, and Same, do to the world.
-/
import Derived.Test.YtfnacibhmanblaaIntsA
import Derived.Test.YtfnacibhmanblaaShelf
namespace Go.Proofs.Ytfnacibhmanblaa.Ints
open Go.RowKit

theorem sz : (Try.prog.info? 3).map (·.size) = some 1 := by kernel_rfl
theorem one (zs : List Int) : ∀ u, u ∈ zs.map (Value.int .i64) → u.oneCell' = true := fun u hu => by
  obtain ⟨x, _, rfl⟩ := List.mem_map.1 hu
  rfl

set_option maxHeartbeats 400000 in
theorem all_any (w : World) (p : Nat) (v : Value) (zs : List Int) (h : PX w p v zs) (hl : zs.length < 100000) :
    Calls Try.prog 13 #[.pointer (some ⟨p, 0, none⟩)] w fun e w' => e = .returned (.slice (some ⟨w.heap.size, 0, none⟩) zs.length zs.length) ∧ Own w' 3 (.slice (some ⟨w.heap.size, 0, none⟩) zs.length zs.length) (zs.map (Value.int .i64)) ∧ Kp [] w w' := by
  obtain ⟨ao, c, hv, hc, hf, hcs⟩ := h.out
  have hpl : p < w.heap.size := (Array.getElem?_eq_some_iff.1 h.1).1
  obtain ⟨i0, hi0, hz0, hz1, hz2⟩ := info_parts info
  obtain ⟨MC, hMC⟩ : ∃ MC, MC = madeCells (((Value.int .i64 0) : Value).cells) (zs.length * 1) := ⟨_, rfl⟩
  have hMs : MC.size = zs.length := by rw [hMC, size_madeCells, Nat.mul_one]
  have hmk : (Instr.makeSlice 24 (.int .i64 (zs.length : Int)) (.int .i64 (zs.length : Int))).run Try.prog w = .ok (.slice (some ⟨w.heap.size, 0, none⟩) zs.length zs.length) (w.alloc (.cells MC 3)) := by
    have h1 := run_make (P := Try.prog) w 24 3 i0 (Value.int .i64 0) Try.underlying24 hi0 hz0 .i64 .i64 zs.length zs.length (by omega) (by omega) (by rw [hz2]; omega) (by omega)
    rw [hz1] at h1
    rw [hMC]
    exact h1
  have hW1 : (w.alloc (.cells MC 3)).heap[w.heap.size]? = some (.cells MC 3 (0, 0)) := heap_new w _
  have hcp : ∀ ty, (Builtin.copy_ #[24, 24] ty #[.slice (some ⟨w.heap.size, 0, none⟩) zs.length zs.length, .slice ao zs.length c]).run Try.prog (w.alloc (.cells MC 3)) = .ok (goInt zs.length) ((w.alloc (.cells MC 3)).setCells w.heap.size 0 (zs.map (Value.int .i64))) := by
    intro ty
    by_cases h0 : zs.length = 0
    · obtain rfl : zs = [] := List.eq_nil_of_length_eq_zero h0
      exact run_copy_none _ _ _ _ 3 _ _ _ _ _ _ Try.underlying24 sz (by simp)
    · obtain ⟨g, hg, _⟩ := hcs 0 (by omega)
      subst hg
      have h1 := run_copy_cells (P := Try.prog) (w.alloc (.cells MC 3)) 24 24 ty 3 w.heap.size 0 zs.length zs.length ⟨g, 0, none⟩ zs.length c (zs.map (Value.int .i64)) Try.underlying24 sz (by simp)
        (fun j u hj => by
          have hjl : j < zs.length := by have := (List.getElem?_eq_some_iff.1 hj).1; simpa using this
          obtain ⟨g', hg', _, hcg, _⟩ := hcs j hjl
          simp only [Option.some.injEq, Addr.mk.injEq] at hg'
          obtain ⟨rfl, _⟩ := hg'
          have hgl : g < w.heap.size := block_lt_of_cell hcg
          rw [Addr.add_lit, Nat.zero_add, World.cell?_alloc_past _ _ _ hgl, hcg, ← hj]
          simp [hjl])
        (fun j hj => by rw [cell_of hW1, Array.getElem?_eq_getElem (by simp at hj; omega)]; rfl) (fun j hj => frozen_of hW1 _) (one zs)
      simpa using h1
  obtain ⟨W2, hW2⟩ : ∃ W2, W2 = (w.alloc (.cells MC 3)).setCells w.heap.size 0 (zs.map (Value.int .i64)) := ⟨_, rfl⟩
  have hfin : Own W2 3 (.slice (some ⟨w.heap.size, 0, none⟩) zs.length zs.length) (zs.map (Value.int .i64)) ∧ Kp [] w W2 := by
    obtain ⟨cur', hg', hsz'⟩ := setCells_block w.heap.size 3 (zs.map (Value.int .i64)) 0 _ MC hW1
    have hget := setCells_get w.heap.size 3 (zs.map (Value.int .i64)) 0 _ MC cur' hW1 hg' (by simp; omega)
    rw [← hW2] at hg'
    refine ⟨Or.inr ⟨w.heap.size, zs.length, cur', by simp, hg', by simp, by unfold maxLen; omega, by omega, fun j hj => ?_⟩, ?_⟩
    · rw [hget j, if_pos ⟨by omega, by omega⟩]; simp
    · rw [hW2]; exact Kp.setCells w.heap.size (Or.inr (Nat.le_refl _)) _ _ _ ((Kp.refl _ _).alloc _)
  rw [← hW2] at hcp
  have hc1 : (w.alloc (.cells MC 3)).cell? ⟨p, 0, none⟩ = some (.slice ao zs.length c) := by rw [World.cell?_alloc_past _ _ _ hpl]; exact hc
  clear h hcs hv hMC hMs hW1 hW2 hi0 hz0 hz1 hz2
  go_enter Try.func13, Try.ntmps13
  go_wp2_with (at_builtin; refine wpList_copy_runI _ rfl _ _ 24 24 rfl _ _ rfl rfl (hcp _) ?_)
  go_ret
  exact ⟨rfl, hfin⟩

set_option maxHeartbeats 1000000 in
/-- Same, of two that read alike. -/
theorem same_eq (w : World) (v u : Value) (zs : List Int) (hv : Rd w v (zs.map (Value.int .i64))) (hu : Rd w u (zs.map (Value.int .i64))) (hl : zs.length < 100000) :
    Calls Try.prog 14 #[v, u] w fun e w' => e = .returned (.bool true) ∧ ∃ q, w' = w.drewN q := by
  obtain ⟨ao, c, rfl, hcv⟩ := hv
  obtain ⟨bo, d, rfl, hcu⟩ := hu
  simp only [List.length_map] at hcv hcu ⊢
  go_enter Try.func14, Try.ntmps14
  go_wp2
  go_loopw [5] (fun i wr => ∃ k q : Nat, k ≤ zs.length ∧ i = .int .i64 k ∧ wr = w.drewN q) (fun i _ => zs.length - (intOf i).toNat)
  case atStart => exact ⟨0, 0, Nat.zero_le _, rfl, rfl⟩
  case round =>
    obtain ⟨k, q, hk, rfl, rfl⟩ := hrel
    by_cases hlt : k < zs.length
    · obtain ⟨b1, o1, rfl, h1⟩ := hcv k hlt
      obtain ⟨b2, o2, rfl, h2⟩ := hcu k hlt
      rw [List.getElem?_map, List.getElem?_eq_getElem hlt] at h1 h2
      obtain ⟨x, hx⟩ : ∃ x, x = zs[k] := ⟨_, rfl⟩
      rw [← hx] at h1 h2
      have e1 : w.cell? ⟨b1, o1 + k, none⟩ = some (Value.int .i64 x) := h1
      have e2 : w.cell? ⟨b2, o2 + k, none⟩ = some (Value.int .i64 x) := h2
      clear hx h1 h2 hcv hcu
      go_wp2
      go_region
      all_goals (try go_wp2)
      all_goals
        go_roundw
        case rel => exact ⟨k + 1, q + 1, by omega, by go_num, rfl⟩
        case measure => simp [intOf]; omega
    · go_wp2
      go_ret
      exact ⟨rfl, q, rfl⟩

end Go.Proofs.Ytfnacibhmanblaa.Ints
