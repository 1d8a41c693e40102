/-
  Roomy and Intact, of attributes: a list in new memory with marks behind it; is it as it was?
-/
import Derived.Test.YtbhgldinoijecaaForeign
import Derived.Laws.IdiomCopy
namespace Go.Proofs.Ytbhgldinoijecaa
open Go.RowKit

/-- A list, and eighty marks behind it. -/
def rooms (l : List Att) (mk : Att) : List Att := l ++ List.replicate 80 mk

theorem rooms_len (l : List Att) (mk : Att) : (rooms l mk).length = l.length + 80 := by simp [rooms]

theorem rooms_at (l : List Att) (mk : Att) (k : Nat) (h1 : l.length ≤ k) (h2 : k < (rooms l mk).length) : (rooms l mk)[k] = mk := by
  have h3 : (rooms l mk)[k]? = some mk := by
    unfold rooms at h2 ⊢
    rw [List.getElem?_append_right h1, List.getElem?_replicate, if_pos (by simp at h2; omega)]
  rw [List.getElem?_eq_getElem h2] at h3
  exact Option.some.inj h3

theorem size23 : (Try.prog.info? 23).map (·.size) = some 2 := by
  obtain ⟨i, h0, _, h2, _⟩ := info_parts info23
  rw [h0]
  simp [h2]

/-- copy, of attributes. -/
theorem run_copy_att (w : World) (ty : TypeId) (b o dLen dCap : Nat) (a : Addr) (sLen sCap : Nat) (l : List Att) (hn : l.length = Nat.min sLen dLen)
    (hsrc : ∀ j v, (cs l)[j]? = some v → w.cell? (a.add j) = some v) (hc : ∀ j, j < (cs l).length → (w.cell? ⟨b, o + j, none⟩).isSome = true) (hf : ∀ j, j < (cs l).length → w.frozen? ⟨b, o + j, none⟩ = false) :
    (Builtin.copy_ #[24, 24] ty #[.slice (some ⟨b, o, none⟩) dLen dCap, .slice (some a) sLen sCap]).run Try.prog w = .ok (goInt l.length) (w.setCells b o (cs l)) := by
  have hl := run_loadCells_list (P := Try.prog) w a (cs l) hsrc
  have hst := run_storeCells_cells (P := Try.prog) b o (cs l) 0 w (by simpa using hc) (by simpa using hf) (cs_one l)
  rw [cs_len] at hl
  have hs := size23
  cases hq : Try.prog.info? 23 with
  | none => simp [hq] at hs
  | some i =>
    have hi : i.size = 2 := by simpa [hq] using hs
    simp [Builtin.copy_, run_underlying Try.underlying24, Builtin.lenOf, Builtin.firstCells, sizeOf, typeInfo, hq, hi, ← hn, hl, hst]

theorem run_copy_no (w : World) (ty : TypeId) (d a : Option Addr) (dLen dCap sLen sCap : Nat) (hn : Nat.min sLen dLen = 0) :
    (Builtin.copy_ #[24, 24] ty #[.slice d dLen dCap, .slice a sLen sCap]).run Try.prog w = .ok (goInt 0) w := by
  have hs := size23
  cases hq : Try.prog.info? 23 with
  | none => simp [hq] at hs
  | some i =>
    have hl : ∀ (x : Addr), (loadCells x 0).run Try.prog w = .ok #[] w := fun x => by simpa using run_loadCells_list (P := Try.prog) w x [] (by simp)
    cases d <;> cases a <;> simp [Builtin.copy_, run_underlying Try.underlying24, Builtin.lenOf, Builtin.firstCells, sizeOf, typeInfo, hq, hn, storeCells, hl]

/-- copy, into a block that was just made. -/
theorem copy_new (w : World) (ao : Option Addr) (n c : Nat) (l : List Att) (hv : Rp w ao n c l) (MC : Array Value) (hM : MC.size = (n + 80) * 2) :
    ∃ w2, (∀ ty, (Builtin.copy_ #[24, 24] ty #[.slice (some ⟨w.heap.size, 0, none⟩) (n + 80) (n + 80), .slice ao n c]).run Try.prog (w.alloc (.cells MC 23)) = .ok (.int .i64 (n : Int)) w2) ∧ Kp [] w w2 ∧
      ∃ cur : Array Value, w2.heap[w.heap.size]? = some (.cells cur 23 (0, 0)) ∧ cur.size = (n + 80) * 2 ∧ ∀ j, j < n * 2 → cur[j]? = (cs l)[j]? := by
  have hl := hv.len
  have hg := heap_new w (.cells MC 23)
  have hr := hv.kept ((Kp.refl [] w).alloc (.cells MC 23))
  by_cases h0 : n = 0
  · refine ⟨_, fun ty => ?_, (Kp.refl _ _).alloc _, MC, hg, hM, fun j hj => by omega⟩
    have := run_copy_no (w.alloc (.cells MC 23)) ty (some ⟨w.heap.size, 0, none⟩) ao (n + 80) (n + 80) n c (by rw [h0]; exact Nat.zero_min _)
    rw [this, h0]
    rfl
  · obtain ⟨b, off, rfl, _⟩ := hr.at' 0 (by omega)
    obtain ⟨cur', hg', hsz'⟩ := setCells_block w.heap.size 23 (cs l) 0 (w.alloc (.cells MC 23)) MC hg
    have hget := setCells_get w.heap.size 23 (cs l) 0 (w.alloc (.cells MC 23)) MC cur' hg hg' (by rw [cs_len]; omega)
    refine ⟨_, fun ty => ?_, Kp.setCells w.heap.size (Or.inr (Nat.le_refl _)) (cs l) 0 _ ((Kp.refl _ _).alloc _), cur', hg', by omega, fun j hj => ?_⟩
    · have := run_copy_att (w.alloc (.cells MC 23)) ty w.heap.size 0 (n + 80) (n + 80) ⟨b, off, none⟩ n c l (by rw [← hl]; exact (Nat.min_eq_left (by omega)).symm)
        (fun j v hj => by
          have hj' := (List.getElem?_eq_some_iff.1 hj).1
          rw [cs_len] at hj'
          obtain ⟨b2, off2, h1, h2⟩ := hr.at' j (by omega)
          simp only [Option.some.injEq, Addr.mk.injEq] at h1
          obtain ⟨rfl, rfl, _⟩ := h1
          rw [Addr.add_lit, h2, hj])
        (fun j hj => by
          rw [cs_len] at hj
          rw [cell_of hg, Array.getElem?_eq_getElem (by omega)]
          rfl) (fun j hj => frozen_of hg _)
      rw [this, ← hl]
      rfl
    · rw [hget j, if_pos (by rw [cs_len]; omega)]
      simp

set_option maxHeartbeats 1000000 in
theorem roomy_any (w : World) (ao : Option Addr) (n c : Nat) (l : List Att) (mk : Att) (hv : Rp w ao n c l) (hl : n ≤ 1000) :
    Calls Try.prog 9 #[.slice ao n c, av mk] w fun e w' => ∃ ao', e = .returned (.slice ao' (n + 80) (n + 80)) ∧ Mp w w' ao' (n + 80) (n + 80) (rooms l mk) := by
  have HL : Hid (n = l.length) := hv.len
  obtain ⟨w1, hw1⟩ : ∃ w1, w1 = w.alloc (.cells #[.string mk.1, .string mk.2] 23) := ⟨_, rfl⟩
  have kb : Kp [] w w1 := by rw [hw1]; exact (Kp.refl _ _).alloc _
  have cb : w1.heap[w.heap.size]? = some (.cells #[.string mk.1, .string mk.2] 23) := by rw [hw1]; exact heap_new _ _
  have e0 : w1.heap.size = w.heap.size + 1 := by rw [hw1]; simp
  have hv1 := hv.kept kb
  obtain ⟨i0, hi0, hz0, hz1, hz2⟩ := info_parts info23
  obtain ⟨MC, hMC⟩ : ∃ MC, MC = madeCells (av (⟨#[]⟩, ⟨#[]⟩)).cells ((n + 80) * 2) := ⟨_, rfl⟩
  have hMs : MC.size = (n + 80) * 2 := by rw [hMC, size_madeCells]
  have hmk : (Instr.makeSlice 24 (.int .i64 ((n : Int) + 80)) (.int .i64 ((n : Int) + 80))).run Try.prog w1 = .ok (.slice (some ⟨w1.heap.size, 0, none⟩) (n + 80) (n + 80)) (w1.alloc (.cells MC 23)) := by
    have h1 := run_make (P := Try.prog) w1 24 23 i0 _ Try.underlying24 hi0 hz0 .i64 .i64 (n + 80) (n + 80) (by omega) (by omega) (by rw [hz2]; omega) (by omega)
    rw [hz1] at h1
    rw [hMC]
    exact h1
  obtain ⟨w2, hcp, k2, cur2, hg2, hs2, hc2⟩ := copy_new w1 ao n c l hv1 MC hMs
  have C1 : Hid (∀ v, Kp [w.heap.size + 1] w1 v → v.cell? ⟨w.heap.size, 0, none⟩ = some (.string mk.1) ∧ v.cell? ⟨w.heap.size, 1, none⟩ = some (.string mk.2)) := fun v kv => by
    have : v.heap[w.heap.size]? = some (.cells #[.string mk.1, .string mk.2] 23) := by rw [kv.block _ (by omega) (by simp)]; exact cb
    exact ⟨by rw [cell_of this]; rfl, by rw [cell_of this]; rfl⟩
  rw [e0] at hmk hcp hg2
  have E0 : Hid (w1.heap.size = w.heap.size + 1) := e0
  have K2 : Kp [w.heap.size + 1] w1 w2 := k2.mono (fun x hx => by simp at hx)
  clear hMC hMs hi0 hz0 hz1 hz2 hv hv1 cb e0 k2
  unfold av
  go_enter Try.func9, Try.ntmps9
  rw [hw1] at hmk hcp
  go_wp2
  clear hmk hcp hw1
  go_loopw [6] (fun i wr => ∃ (k : Nat) (cur : Array Value), n ≤ k ∧ k ≤ n + 80 ∧ i = .int .i64 k ∧ Kp [w.heap.size + 1] w1 wr ∧ wr.heap[w.heap.size + 1]? = some (.cells cur 23 (0, 0)) ∧ cur.size = (n + 80) * 2 ∧ ∀ j, j < k * 2 → cur[j]? = (cs (rooms l mk))[j]?) (fun i _ => n + 80 - (intOf i).toNat)
  case atStart =>
    refine ⟨n, cur2, Nat.le_refl _, by omega, rfl, K2, hg2, hs2, fun j hj => ?_⟩
    rw [hc2 j hj]
    unfold rooms
    rw [cs_append, List.getElem?_append_left (by have := HL.out; rw [cs_len]; omega)]
  case round =>
    obtain ⟨k, cur, hk1, hk2, rfl, kp, hg, hs, hc⟩ := hrel
    clear K2 hg2 hs2 hc2
    by_cases hlt : k < n + 80
    · obtain ⟨c0, c1⟩ := C1.out wr kp
      obtain ⟨u, hu⟩ : ∃ u, wr.cell? ⟨w.heap.size + 1, k * 2, none⟩ = some u := by
        rw [cell_of hg, Array.getElem?_eq_getElem (by omega)]
        exact ⟨_, rfl⟩
      obtain ⟨u', hu'⟩ : ∃ u, wr.cell? ⟨w.heap.size + 1, k * 2 + 1, none⟩ = some u := by
        rw [cell_of hg, Array.getElem?_eq_getElem (by omega)]
        exact ⟨_, rfl⟩
      have hf := frozen_of hg (k * 2)
      have hf' := frozen_of hg (k * 2 + 1)
      have kp' : Kp [w.heap.size + 1] w1 ((wr.setCell ⟨w.heap.size + 1, k * 2, none⟩ (.string mk.1)).setCell ⟨w.heap.size + 1, k * 2 + 1, none⟩ (.string mk.2)) := (kp.setCell (Or.inl (by simp)) _).setCell (Or.inl (by simp)) _
      have hg' := setCell_block (setCell_block hg (k * 2) (.string mk.1)) (k * 2 + 1) (.string mk.2)
      have hrl : k < (rooms l mk).length := by rw [rooms_len]; have := HL.out; omega
      have hra := rooms_at l mk k (by have := HL.out; omega) hrl
      have hc' : ∀ j, j < (k + 1) * 2 → ((cur.setIfInBounds (k * 2) (.string mk.1)).setIfInBounds (k * 2 + 1) (.string mk.2))[j]? = (cs (rooms l mk))[j]? := fun j hj => by
        by_cases hjk : j = k * 2 + 1
        · subst hjk
          rw [Array.getElem?_setIfInBounds_self_of_lt (by simp; omega), cs_snd _ k hrl, hra]
        · rw [Array.getElem?_setIfInBounds_ne (by omega)]
          by_cases hjk2 : j = k * 2
          · subst hjk2
            rw [Array.getElem?_setIfInBounds_self_of_lt (by omega), cs_fst _ k hrl, hra]
          · rw [Array.getElem?_setIfInBounds_ne (by omega)]
            exact hc j (by omega)
      have hs' : ((cur.setIfInBounds (k * 2) (.string mk.1)).setIfInBounds (k * 2 + 1) (.string mk.2)).size = (n + 80) * 2 := by simp [hs]
      clear hc hs kp hra hrl
      go_wp2
      go_roundw
      case rel => exact ⟨k + 1, _, by omega, by omega, by go_num, kp', hg', hs', hc'⟩
      case measure => simp [intOf]; omega
    · obtain rfl : k = n + 80 := by omega
      go_wp2
      go_ret
      refine ⟨some ⟨w.heap.size + 1, 0, none⟩, rfl, ⟨?_, Or.inr ⟨w.heap.size + 1, 0, n + 80, cur, rfl, hg, Nat.le_refl _, by unfold maxLen; omega, by omega, fun j hj => ?_⟩⟩, ?_, fun x hx => ?_⟩
      · rw [cs_len, rooms_len, ← HL.out]
      · rw [Nat.zero_add]
        exact hc j hj
      · exact kb.trans kp (fun x hx => by simp at hx; omega)
      · simp [blk] at hx
        omega

set_option maxHeartbeats 1000000 in
theorem intact_any (w : World) (ao fo : Option Addr) (n c : Nat) (l : List Att) (mk : Att) (hv : Rp w ao n c l) (hF : Rp w fo (n + 80) (n + 80) (rooms l mk)) (hl : n ≤ 900) :
    Calls Try.prog 10 #[.slice fo (n + 80) (n + 80), .slice ao n c, av mk] w fun e w' => e = .returned (.bool true) ∧ Kp [] w w' := by
  have HL : Hid (n = l.length) := hv.len
  obtain ⟨w1, hw1⟩ : ∃ w1, w1 = w.alloc (.cells #[.string mk.1, .string mk.2] 23) := ⟨_, rfl⟩
  have kb : Kp [] w w1 := by rw [hw1]; exact (Kp.refl _ _).alloc _
  have cb : w1.heap[w.heap.size]? = some (.cells #[.string mk.1, .string mk.2] 23) := by rw [hw1]; exact heap_new _ _
  have lb : w.heap.size < w1.heap.size := by rw [hw1]; simp
  have hT := hF.take n (by omega)
  have e1 : (rooms l mk).take n = l := by
    unfold rooms
    rw [HL.out, List.take_append_of_le_length (Nat.le_refl _), List.take_length]
  rw [e1] at hT
  have HS := book_same_any w1 l l fo ao n (n + 80) n c (hT.kept kb) (hv.kept kb) (by omega) (by omega)
  rw [same_yes rfl] at HS
  have hq : (((n : Int) + 80) != ((n : Int) + 80)) = false := by simp
  have C1 : Hid (∀ v, Kp [] w1 v → v.cell? ⟨w.heap.size, 0, none⟩ = some (.string mk.1) ∧ v.cell? ⟨w.heap.size, 1, none⟩ = some (.string mk.2)) := fun v kv => by
    have : v.heap[w.heap.size]? = some (.cells #[.string mk.1, .string mk.2] 23) := by rw [kv.block _ lb (by simp)]; exact cb
    exact ⟨by rw [cell_of this]; rfl, by rw [cell_of this]; rfl⟩
  clear cb lb hT e1 hv
  unfold av
  go_enter Try.func10, Try.ntmps10
  rw [hw1] at HS
  go_wp2_with fail
  refine HS.mono ?_
  rintro e w2 ⟨rfl, k2⟩
  rw [← hw1] at k2
  clear HS hw1 hq
  go_wp2
  go_loopw [7] (fun i wr => ∃ k : Nat, n ≤ k ∧ k ≤ n + 80 ∧ i = .int .i64 k ∧ Kp [] w1 wr) (fun i _ => n + 80 - (intOf i).toNat)
  case atStart => exact ⟨n, Nat.le_refl _, by omega, rfl, k2⟩
  case round =>
    obtain ⟨k, hk1, hk2, rfl, kp⟩ := hrel
    clear k2
    by_cases hlt : k < n + 80
    · obtain ⟨c0, c1⟩ := C1.out wr kp
      have hrl : k < (rooms l mk).length := by rw [rooms_len]; have := HL.out; omega
      have hra := rooms_at l mk k (by have := HL.out; omega) hrl
      obtain ⟨b1, o1, rfl, h1, h2⟩ := ((hF.kept kb).kept kp).get k hrl
      rw [hra] at h1 h2
      clear hF hra hrl
      go_wp2_with fail
      go_region
      go_wp2
      go_roundw
      case rel => exact ⟨k + 1, by omega, by omega, by go_num, kp.drewN _⟩
      case measure => simp [intOf]; omega
    · obtain rfl : k = n + 80 := by omega
      go_wp2
      go_ret
      exact ⟨rfl, kb.trans kp (fun x hx => by simp at hx)⟩

end Go.Proofs.Ytbhgldinoijecaa
