/-
  The walk of PipeNumbers: each room at a bound, and the chapter's run: it answers true, and leaves what was there as it was.
-/
import Derived.Test.YtigpbkgcfnmdiaaIntsC
import Derived.Test.YtigpbkgcfnmdiaaKnown
namespace Go.Proofs.Ytigpbkgcfnmdiaa
open Go.RowKit Ints

theorem rooms_at (k : Nat) (hk : k < 7) : ∃ n : Int, (#[Value.int .i64 (-1), .int .i64 0, .int .i64 1, .int .i64 2, .int .i64 4095, .int .i64 4096, .int .i64 4097] : Array Value)[k]? = some (.int .i64 n) ∧ ((n < 1 ∨ 4096 < n) ∨ ∃ r : Nat, 1 ≤ r ∧ r ≤ 4096 ∧ n = r) := by
  match k, hk with
  | 0, _ => exact ⟨-1, rfl, Or.inl (by omega)⟩
  | 1, _ => exact ⟨0, rfl, Or.inl (by omega)⟩
  | 2, _ => exact ⟨1, rfl, Or.inr ⟨1, by omega, by omega, rfl⟩⟩
  | 3, _ => exact ⟨2, rfl, Or.inr ⟨2, by omega, by omega, rfl⟩⟩
  | 4, _ => exact ⟨4095, rfl, Or.inr ⟨4095, by omega, by omega, rfl⟩⟩
  | 5, _ => exact ⟨4096, rfl, Or.inr ⟨4096, by omega, by omega, rfl⟩⟩
  | 6, _ => exact ⟨4097, rfl, Or.inl (by omega)⟩

/-- make of five thousand ints. -/
theorem made (w : World) : ∃ MC : Array Value, (Instr.makeSlice 22 (.int .i64 5000) (.int .i64 5000)).run Try.prog w = .ok (.slice (some ⟨w.heap.size, 0, none⟩) 5000 5000) (w.alloc (.cells MC 3)) ∧
    ∃ ys : List Int, ys.length = 5000 ∧ Rd (w.alloc (.cells MC 3)) (.slice (some ⟨w.heap.size, 0, none⟩) ys.length 5000) (ys.map (Value.int .i64)) := by
  obtain ⟨i0, hi0, hz0, hz1, hz2⟩ := info_parts info
  have h1 := run_make (P := Try.prog) w 22 3 i0 (Value.int .i64 0) Try.underlying22 hi0 hz0 .i64 .i64 5000 5000 (by omega) (by omega) (by rw [hz2]; omega) (by omega)
  rw [hz1] at h1
  refine ⟨_, h1, List.replicate 5000 0, List.length_replicate, ?_⟩
  refine ⟨_, 5000, by rw [List.length_map], fun j hj => ⟨w.heap.size, 0, rfl, ?_⟩⟩
  rw [List.length_map, List.length_replicate] at hj
  rw [cell_of (heap_new w _), Nat.zero_add, List.getElem?_map, List.getElem?_replicate, if_pos hj]
  show (madeCells #[Value.int .i64 0] 5000)[j]? = some (.int .i64 0)
  simp [madeCells, hj, Nat.mod_one]

set_option maxHeartbeats 2000000 in
set_option maxRecDepth 100000 in
theorem numbers_any (w : World) : Calls Try.prog 3 #[] w fun e w' => e = .returned (.bool true) ∧ Kp [] w w' := by
  go_enter Try.func3, Try.ntmps3
  go_wp2
  have hk0 : Kp [] w (w.alloc (.cells #[Value.int .i64 (-1), .int .i64 0, .int .i64 1, .int .i64 2, .int .i64 4095, .int .i64 4096, .int .i64 4097] 3)) := (Kp.refl _ _).alloc _
  have hb0 : (w.alloc (.cells #[Value.int .i64 (-1), .int .i64 0, .int .i64 1, .int .i64 2, .int .i64 4095, .int .i64 4096, .int .i64 4097] 3)).heap[w.heap.size]? = some (.cells #[Value.int .i64 (-1), .int .i64 0, .int .i64 1, .int .i64 2, .int .i64 4095, .int .i64 4096, .int .i64 4097] 3 (0, 0)) := heap_new w _
  generalize w.alloc (.cells #[Value.int .i64 (-1), .int .i64 0, .int .i64 1, .int .i64 2, .int .i64 4095, .int .i64 4096, .int .i64 4097] 3) = w1 at hk0 hb0 ⊢
  generalize w.heap.size = b at hb0 ⊢
  go_loopw [10] (fun i wr => ∃ k : Nat, k ≤ 7 ∧ i = .int .i64 (k : Nat) ∧ Kp [] w1 wr) (fun i _ => 7 - (intOf i).toNat)
  case atStart => exact ⟨0, by omega, rfl, Kp.refl _ _⟩
  case round =>
    obtain ⟨k, hk, rfl, hkp⟩ := hrel
    by_cases hlt : k < 7
    · obtain ⟨n, hn, hcase⟩ := rooms_at k hlt
      have hcell : wr.cell? ⟨b, k, none⟩ = some (.int .i64 n) := by
        rw [hkp.cell (a := ⟨b, k, none⟩) (lt_of hb0) (by simp), cell_of hb0, hn]
      clear hn
      rcases hcase with hout | ⟨r, h1, h2, rfl⟩
      · have HN := new_out wr n hout
        rcases hout with hout | hout
        all_goals
          go_wp2_with fail
          refine HN.mono ?_
          rintro e w2 ⟨rfl, rfl⟩
          clear HN hcell
          go_wp2
          go_roundw
          case rel => exact ⟨k + 1, by omega, by go_num, hkp⟩
          case measure => simp [intOf]; omega
      · go_wp2_with fail
        refine (new_any wr r h1 h2).mono ?_
        rintro e w2 ⟨rfl, l2, k2⟩
        have i2 : Inv w1 w2 (wr.heap.size + 1) wr.heap.size r [] [] := ⟨l2, hkp.trans k2 (fun x hx => by simp at hx), hkp.size⟩
        clear l2 k2 hkp hcell
        generalize wr.heap.size + 1 = p at i2 ⊢
        generalize wr.heap.size = c at i2 ⊢
        go_wp2_with fail
        refine (take_out _ _ _ _ i2.1).mono ?_
        rintro e w3 ⟨rfl, rfl⟩
        go_wp2_with fail
        refine (len_any _ _ _ _ _ _ i2.1).mono ?_
        rintro e w4 ⟨rfl, rfl⟩
        go_wp2_with fail
        refine (room_any _ _ _ _ _ _ i2.1 h2).mono ?_
        rintro e w5 ⟨rfl, l5, k5⟩
        have i5 := i2.kept k5
        clear i2 l5 k5
        obtain ⟨MC, hmk, ys, hyl, hrd⟩ := made w5
        have i6 := i5.kept ((Kp.refl [] w5).alloc (.cells MC 3))
        have HF := fill_any _ _ _ _ _ _ i6.1 _ _ ys hrd (by omega)
        rw [show min (r - ([] : List Int).length) ys.length = r by simp; omega, hyl] at HF
        obtain ⟨us, hus⟩ : ∃ us, us = [] ++ ys.take r := ⟨_, rfl⟩
        have hul : us.length = r := by rw [hus]; simp; omega
        rw [← hus] at HF
        have HU : Hid (us.length = r) := hul
        clear hus hul hyl hrd i5
        go_wp2_with fail
        refine HF.mono ?_
        rintro e w7 ⟨rfl, k7, ks, l7, _⟩
        have i7 := i6.step l7 k7
        clear HF i6 l7 k7 hmk
        go_wp2_with fail
        refine (put_out _ _ _ _ _ _ 1 i7.1 (by rw [HU.out]; exact Nat.le_refl _)).mono ?_
        rintro e w8 ⟨rfl, l8, k8⟩
        have i8 := i7.kept k8
        clear i7 l8 k8
        have HL := len_any _ _ _ _ _ _ i8.1
        have HD := drain_any _ _ _ _ _ _ i8.1 h2
        rw [HU.out] at HL HD
        go_wp2_with fail
        refine HL.mono ?_
        rintro e w9 ⟨rfl, rfl⟩
        clear HL
        go_wp2_with fail
        refine HD.mono ?_
        rintro e w10 ⟨a, cp, rfl, _, l10, k10, _⟩
        have i10 := i8.step l10 k10
        clear i8 l10 k10 HD
        have hkp := i10.2.1
        clear i10
        go_wp2
        go_roundw
        case rel => exact ⟨k + 1, by omega, by go_num, hkp⟩
        case measure => simp [intOf]; omega
    · go_wp2_with fail
      refine (known_any _).mono ?_
      rintro e w2 ⟨rfl, k2⟩
      have hkk := (hk0.trans hkp (fun x hx => by simp at hx)).trans k2 (fun x hx => by simp at hx)
      clear hk0 hkp k2
      go_wp2
      go_ret
      exact ⟨rfl, hkk⟩

end Go.Proofs.Ytigpbkgcfnmdiaa
