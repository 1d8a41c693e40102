/-
  What Roomy does: a list of bytes is laid in new memory, with marks behind it.
-/
import Derived.Test.YtpjkpobdkmcedaaDoorBook
namespace Go.Proofs.YtpjkpobdkmcedaaDoor
open Go.RowKit Utf

/-- copy, into a block that was just made. -/
theorem copy_new (w : World) (ao : Option Addr) (n c : Nat) (zs : List Int) (hv : Rb w ao n c (b8 zs)) (MC : Array Value) (hM : MC.size = n + 80) :
    ∃ w2, (∀ ty, (Builtin.copy_ #[27, 27] ty #[.slice (some ⟨w.heap.size, 0, none⟩) (n + 80) (n + 80), .slice ao n c]).run Tryd.prog (w.alloc (.cells MC 5)) = .ok (.int .i64 (n : Int)) w2) ∧ Kp [] w w2 ∧
      ∃ cur : Array Value, w2.heap[w.heap.size]? = some (.cells cur 5 (0, 0)) ∧ cur.size = n + 80 ∧ ∀ j, j < n → cur[j]? = (b8 zs)[j]? := by
  have hl := hv.len
  rw [b8_len] at hl
  have hs : (Tryd.prog.info? 5).map (·.size) = some 1 := by
    obtain ⟨i, h0, _, h2, _⟩ := info_parts info5
    rw [h0]
    simp [h2]
  have hg := heap_new w (.cells MC 5)
  have hr := hv.kept ((Kp.refl [] w).alloc (.cells MC 5))
  by_cases h0 : n = 0
  · refine ⟨_, fun ty => ?_, (Kp.refl _ _).alloc _, MC, hg, hM, fun j hj => by omega⟩
    have := run_copy_none (P := Tryd.prog) (w.alloc (.cells MC 5)) 27 27 ty 5 (some ⟨w.heap.size, 0, none⟩) ao (n + 80) (n + 80) n c Tryd.underlying27 hs (by rw [h0]; exact Nat.zero_min _)
    rw [this, h0]
    rfl
  · obtain ⟨b, off, rfl, _⟩ := hr.at' 0 (by omega)
    obtain ⟨cur', hg', hsz'⟩ := setCells_block w.heap.size 5 (b8 zs) 0 (w.alloc (.cells MC 5)) MC hg
    have hget := setCells_get w.heap.size 5 (b8 zs) 0 (w.alloc (.cells MC 5)) MC cur' hg hg' (by rw [b8_len]; omega)
    refine ⟨_, fun ty => ?_, Kp.setCells w.heap.size (Or.inr (Nat.le_refl _)) (b8 zs) 0 _ ((Kp.refl _ _).alloc _), cur', hg', by omega, fun j hj => ?_⟩
    · have := run_copy_cells (P := Tryd.prog) (w.alloc (.cells MC 5)) 27 27 ty 5 w.heap.size 0 (n + 80) (n + 80) ⟨b, off, none⟩ n c (b8 zs) Tryd.underlying27 hs (by rw [b8_len, ← hl]; exact (Nat.min_eq_left (by omega)).symm)
        (fun j v hj => by
          have hj' := (List.getElem?_eq_some_iff.1 hj).1
          rw [b8_len] at hj'
          obtain ⟨b2, off2, h1, h2⟩ := hr.at' j (by omega)
          simp only [Option.some.injEq, Addr.mk.injEq] at h1
          obtain ⟨rfl, rfl, _⟩ := h1
          rw [Addr.add_lit, h2, hj])
        (fun j hj => by
          rw [b8_len] at hj
          rw [cell_of hg, Array.getElem?_eq_getElem (by omega)]
          rfl) (fun j hj => frozen_of hg _) (b8_one zs)
      rw [this, b8_len, ← hl]
      rfl
    · rw [hget j, if_pos (by rw [b8_len]; omega)]
      simp

set_option maxHeartbeats 1000000 in
theorem roomy_any (w : World) (ao : Option Addr) (n c : Nat) (zs : List Int) (hv : Rb w ao n c (b8 zs)) (hl : n ≤ 100000) :
    Calls Tryd.prog 20 #[.slice ao n c, .int .u8 165] w fun e w' => ∃ a, e = .returned (.slice (some a) (n + 80) (n + 80)) ∧ Own w' 5 (.slice (some a) (n + 80) (n + 80)) (b8 (roomy zs)) ∧ Kp [] w w' ∧ w.heap.size ≤ a.block := by
  have hln := hv.len
  rw [b8_len] at hln
  obtain ⟨i0, hi0, hz0, hz1, hz2⟩ := info_parts info5
  obtain ⟨MC, hMC⟩ : ∃ MC, MC = madeCells (((Value.int .u8 0) : Value).cells) ((n + 80) * 1) := ⟨_, rfl⟩
  have hMs : MC.size = n + 80 := by rw [hMC, size_madeCells, Nat.mul_one]
  have hmk : (Instr.makeSlice 27 (.int .i64 ((n : Int) + 80)) (.int .i64 ((n : Int) + 80))).run Tryd.prog w = .ok (.slice (some ⟨w.heap.size, 0, none⟩) (n + 80) (n + 80)) (w.alloc (.cells MC 5)) := by
    have h1 := run_make (P := Tryd.prog) w 27 5 i0 (Value.int .u8 0) Tryd.underlying27 hi0 hz0 .i64 .i64 (n + 80) (n + 80) (by omega) (by omega) (by rw [hz2]; omega) (by omega)
    rw [hz1] at h1
    rw [hMC]
    exact h1
  obtain ⟨w2, hcp, k2, cur2, hg2, hs2, hc2⟩ := copy_new w ao n c zs hv MC hMs
  have HL : Hid (n = zs.length) := hln
  clear hMC hMs hi0 hz0 hz1 hz2 hv hln
  go_enter Tryd.func20, Tryd.ntmps20
  go_wp2
  clear hmk hcp
  go_loopw [6] (fun i wr => ∃ (k : Nat) (cur : Array Value), n ≤ k ∧ k ≤ n + 80 ∧ i = .int .i64 k ∧ Kp [] w wr ∧ wr.heap[w.heap.size]? = some (.cells cur 5 (0, 0)) ∧ cur.size = n + 80 ∧ ∀ j, j < k → cur[j]? = (b8 (roomy zs))[j]?) (fun i _ => n + 80 - (intOf i).toNat)
  case atStart =>
    refine ⟨n, cur2, Nat.le_refl _, by omega, rfl, k2, hg2, hs2, fun j hj => ?_⟩
    rw [hc2 j hj]
    simp only [b8, roomy, List.map_append]
    rw [List.getElem?_append_left (by have := HL.out; simp; omega)]
  case round =>
    obtain ⟨k, cur, hk1, hk2, rfl, kp, hg, hs, hc⟩ := hrel
    clear k2 hg2 hs2 hc2
    by_cases hlt : k < n + 80
    · obtain ⟨u, hu⟩ : ∃ u, wr.cell? ⟨w.heap.size, k, none⟩ = some u := by
        rw [cell_of hg, Array.getElem?_eq_getElem (by omega)]
        exact ⟨_, rfl⟩
      have hf := frozen_of hg k
      have kp' : Kp [] w (wr.setCell ⟨w.heap.size, k, none⟩ (.int .u8 165)) := kp.setCell (Or.inr (Nat.le_refl _)) _
      have hg' := setCell_block hg k (.int .u8 165)
      have hc' : ∀ j, j < k + 1 → (cur.setIfInBounds k (.int .u8 165))[j]? = (b8 (roomy zs))[j]? := fun j hj => by
        by_cases hjk : j = k
        · subst hjk
          rw [Array.getElem?_setIfInBounds_self_of_lt (by omega)]
          simp only [b8, List.getElem?_map]
          rw [roomy_at zs j (by have := HL.out; omega) (by have := HL.out; omega)]
          rfl
        · rw [Array.getElem?_setIfInBounds_ne (by omega)]
          exact hc j (by omega)
      have hs' : (cur.setIfInBounds k (.int .u8 165)).size = n + 80 := by simp [hs]
      clear hc hs kp
      go_wp2
      go_roundw
      case rel => exact ⟨k + 1, _, by omega, by omega, by go_num, kp', hg', hs', hc'⟩
      case measure => simp [intOf]; omega
    · obtain rfl : k = n + 80 := by omega
      go_wp2
      go_ret
      refine ⟨⟨w.heap.size, 0, none⟩, rfl, Or.inr ⟨w.heap.size, 0, n + 80, cur, ?_, hg, ?_, by unfold maxLen; omega, by omega, fun j hj => ?_⟩, kp, Nat.le_refl _⟩
      · rw [b8_len, roomy_len, ← HL.out]
      · have := HL.out
        rw [b8_len, roomy_len]
        omega
      · have := HL.out
        rw [b8_len, roomy_len] at hj
        rw [Nat.zero_add]
        exact hc j (by omega)

end Go.Proofs.YtpjkpobdkmcedaaDoor
