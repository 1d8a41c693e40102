/-
  Lines made ready, in place: the program's clean.
-/
import Derived.Test.YtinafcajaikfdaaDec
namespace Go.Proofs.Ytinafcajaikfdaa
open Go.RowKit Utf

/-- append of one, where there is room: one cell is written. -/
theorem app_in {w : World} {g o m cap : Nat} {cur : Array Value} (hg : w.heap[g]? = some (.cells cur 21 (0, 0))) (hm : m + 1 ≤ cap) (hs : o + cap ≤ cur.size) (u : Value) (hu : u.oneCell' = true) :
    ∃ w2 cur2, (∀ ty, (Builtin.append_ #[26, 26] ty #[.slice (some ⟨g, o, none⟩) m cap, .slice (some ⟨w.heap.size, 0, none⟩) 1 1]).run Try.prog (w.alloc (.cells #[u] 21)) = .ok (.slice (some ⟨g, o, none⟩) (m + 1) cap) w2) ∧
      w2.heap[g]? = some (.cells cur2 21 (0, 0)) ∧ cur2.size = cur.size ∧ (∀ j, cur2[j]? = if j = o + m then some u else cur[j]?) ∧ Kp [g] w w2 := by
  obtain ⟨i, hi0, _, hi2, _⟩ := info_parts info21
  have hlt := lt_of hg
  have hg1 : (w.alloc (.cells #[u] 21)).heap[g]? = some (.cells cur 21 (0, 0)) := by
    rw [Below.heap_alloc _ _ _ hlt]
    exact hg
  have hsrc : Src Try.prog 1 26 (.slice (some ⟨w.heap.size, 0, none⟩) 1 1) 1 [u] (w.alloc (.cells #[u] 21)) := src_one Try.underlying26 (heap_new w _) hu
  have hsrc' : Src Try.prog i.size 26 (.slice (some ⟨w.heap.size, 0, none⟩) 1 1) 1 [u] (w.alloc (.cells #[u] 21)) := by rw [hi2]; exact hsrc
  have hr := fun ty => run_append_room_src (P := Try.prog) (w.alloc (.cells #[u] 21)) 26 26 ty 21 i Try.underlying26 hi0 g o m cap (.slice (some ⟨w.heap.size, 0, none⟩) 1 1) 1 [u] hsrc' hm
    (fun j hj => by have hj' : j < 1 := (by simpa using hj); rw [hi2, cell_of hg1, Array.getElem?_eq_getElem (by omega)]; rfl) (fun j hj => frozen_of hg1 _)
  obtain ⟨cur', hg', hsz'⟩ := setCells_block g 21 [u] (o + m * i.size) (w.alloc (.cells #[u] 21)) cur hg1
  have hget := setCells_get g 21 [u] (o + m * i.size) (w.alloc (.cells #[u] 21)) cur cur' hg1 hg' (by rw [hi2]; simp; omega)
  refine ⟨_, cur', hr, hg', hsz', fun j => ?_, Kp.setCells g (Or.inl (by simp)) _ _ _ ((Kp.refl _ _).alloc _)⟩
  rw [hget j, hi2]
  simp only [Nat.mul_one, List.length_singleton]
  by_cases hj : j = o + m
  · rw [if_pos (by omega), if_pos hj, hj]
    simp
  · rw [if_neg (by omega), if_neg hj]

/-- Lines in the making: the first ms of the block's cells are ready, and from k on it is as it was. -/
structure Half (w wr : World) (g o cap k : Nat) (rs ms : List Int) : Prop where
  kp : Kp [g] w wr
  less : ms.length ≤ k
  cells : ∃ cur : Array Value, wr.heap[g]? = some (.cells cur 21 (0, 0)) ∧ o + cap ≤ cur.size ∧ (∀ j, j < ms.length → cur[o + j]? = (r32 ms)[j]?) ∧ ∀ j, k ≤ j → j < rs.length → cur[o + j]? = (r32 rs)[j]?
  same : lines rs = ms ++ lines (rs.drop k)

theorem Half.cell {w wr : World} {g o cap k : Nat} {rs ms : List Int} (h : Half w wr g o cap k rs ms) (j : Nat) (h1 : k ≤ j) (h2 : j < rs.length) : wr.cell? ⟨g, o + j, none⟩ = some (.int .i32 rs[j]) := by
  obtain ⟨cur, hg, _, _, hc⟩ := h.cells
  rw [cell_of hg, hc j h1 h2]
  simp [r32, h2]

/-- Nothing is appended. -/
theorem Half.skip {w wr : World} {g o cap k : Nat} {rs ms : List Int} (h : Half w wr g o cap k rs ms) (hs : lines (rs.drop k) = lines (rs.drop (k + 1))) : Half w wr g o cap (k + 1) rs ms := by
  obtain ⟨h1, h2, ⟨cur, hg, h3, h4, h5⟩, h6⟩ := h
  exact ⟨h1, by omega, ⟨cur, hg, h3, h4, fun j a b => h5 j (by omega) b⟩, by rw [h6, hs]⟩

/-- One is appended. -/
theorem Half.more {w wr : World} {g o cap k : Nat} {rs ms : List Int} (h : Half w wr g o cap k rs ms) (hk : k < cap) (x : Int) (hs : lines (rs.drop k) = x :: lines (rs.drop (k + 1))) :
    ∃ w2, (∀ ty, (Builtin.append_ #[26, 26] ty #[.slice (some ⟨g, o, none⟩) ms.length cap, .slice (some ⟨wr.heap.size, 0, none⟩) 1 1]).run Try.prog (wr.alloc (.cells #[.int .i32 x] 21)) = .ok (.slice (some ⟨g, o, none⟩) (ms.length + 1) cap) w2) ∧ Half w w2 g o cap (k + 1) rs (ms ++ [x]) := by
  obtain ⟨h1, h2, ⟨cur, hg, h3, h4, h5⟩, h6⟩ := h
  obtain ⟨w2, cur2, hrun, hg2, hs2, hc2, kp2⟩ := app_in hg (m := ms.length) (by omega) h3 (.int .i32 x) rfl
  refine ⟨w2, hrun, h1.trans kp2 (fun y hy => Or.inl hy), by simp; omega, ⟨cur2, hg2, by omega, fun j hj => ?_, fun j a b => ?_⟩, by rw [h6, hs]; simp⟩
  · rw [hc2]
    simp only [List.length_append, List.length_singleton] at hj
    by_cases hjm : j = ms.length
    · rw [if_pos (by omega), hjm]
      simp [r32]
    · rw [if_neg (by omega), h4 j (by omega)]
      simp only [r32, List.map_append]
      rw [List.getElem?_append_left (by simp; omega)]
  · rw [hc2, if_neg (by omega)]
    exact h5 j (by omega) b

theorem lines_at {rs : List Int} {k : Nat} (hk : k < rs.length) : lines (rs.drop k) = if rs[k] = 13 then (if (rs.drop (k + 1)).head? = some 10 then lines (rs.drop (k + 1)) else 10 :: lines (rs.drop (k + 1))) else if rs[k] = 0 then 65533 :: lines (rs.drop (k + 1)) else rs[k] :: lines (rs.drop (k + 1)) := by
  rw [List.drop_eq_getElem_cons hk, lines_cons]

theorem head_drop {rs : List Int} {k : Nat} (hk : k < rs.length) : (rs.drop k).head? = some rs[k] := by
  rw [List.drop_eq_getElem_cons hk]
  rfl

set_option maxHeartbeats 4000000 in
set_option maxRecDepth 100000 in
theorem clean_any (w : World) (ao : Option Addr) (n c : Nat) (rs : List Int) (h : Own w 21 (.slice ao n c) (r32 rs)) (hl : n ≤ 100000) :
    Calls Try.prog 23 #[.slice ao n c] w fun e w' => ∃ m, e = .returned (.slice ao m c) ∧ m ≤ n ∧ Own w' 21 (.slice ao m c) (r32 (lines rs)) ∧ Kp (blk (.slice ao n c)) w w' := by
  rcases h with ⟨h1, h2⟩ | ⟨g, o, cap, cur, hv, hg, h1, h2, h3, h4⟩
  · simp only [Value.slice.injEq] at h1
    obtain ⟨rfl, rfl, rfl⟩ := h1
    have h0 : rs = [] := by simpa [r32] using h2
    subst h0
    clear h2
    go_enter Try.func23, Try.ntmps23
    go_wp2
    go_loopw [3, 10] (fun v i wr => v = .slice none 0 0 ∧ i = .int .i64 0 ∧ wr = w) (fun _ _ _ => 0)
    case atStart => exact ⟨rfl, rfl, rfl⟩
    case round =>
      obtain ⟨rfl, rfl, rfl⟩ := hrel
      go_wp2
      go_ret
      exact ⟨0, rfl, Nat.le_refl _, Or.inl ⟨rfl, rfl⟩, Kp.refl _ _⟩
  · simp only [Value.slice.injEq] at hv
    obtain ⟨rfl, rfl, rfl⟩ := hv
    simp only [r32_len] at h1 h4 hl ⊢
    have hh : Half w w g o c 0 rs [] := ⟨Kp.refl _ _, Nat.le_refl _, ⟨cur, hg, h3, fun j hj => by simp at hj, fun j _ hj => h4 j hj⟩, rfl⟩
    clear hg h3 h4
    go_enter Try.func23, Try.ntmps23
    go_wp2
    go_loopw [3, 10] (fun v i wr => ∃ (k : Nat) (ms : List Int), k ≤ rs.length ∧ v = .slice (some ⟨g, o, none⟩) ms.length c ∧ i = .int .i64 k ∧ Half w wr g o c k rs ms) (fun _ i _ => rs.length - (intOf i).toNat)
    case atStart => exact ⟨0, [], Nat.zero_le _, rfl, rfl, hh⟩
    case round =>
      obtain ⟨k, ms, hk, rfl, rfl, hm⟩ := hrel
      clear hh
      by_cases hlt : k < rs.length
      · have hcell := hm.cell k (Nat.le_refl _) hlt
        have hla := lines_at hlt
        by_cases h13 : rs[k] = 13
        · rw [h13] at hcell
          rw [if_pos h13] at hla
          clear h13
          by_cases hn1 : k + 1 < rs.length
          · have hcell2 := hm.cell (k + 1) (by omega) hn1
            rw [head_drop hn1] at hla
            generalize rs[k + 1] = y at hcell2 hla
            by_cases hy : y = 10
            · subst hy
              rw [if_pos rfl] at hla
              have hm2 := hm.skip hla
              clear hm hla
              go_wp2
              go_roundw
              case rel => exact ⟨k + 1, ms, by omega, rfl, by go_num, hm2⟩
              case measure => simp [intOf]; omega
            · rw [if_neg (by simpa using hy)] at hla
              obtain ⟨w2, hrun, hm2⟩ := hm.more (by omega) 10 hla
              clear hm hla
              go_wp2_with (at_builtin; refine Lib.wpList_append_run _ rfl _ _ _ _ rfl _ _ rfl rfl _ _ (hrun _) ?_)
              go_roundw
              case rel => exact ⟨k + 1, ms ++ [10], by omega, by simp, by go_num, hm2⟩
              case measure => simp [intOf]; omega
          · have hnil : rs.drop (k + 1) = [] := List.drop_eq_nil_of_le (by omega)
            have hla2 : lines (rs.drop k) = 10 :: lines (rs.drop (k + 1)) := by
              rw [hla, hnil]
              rfl
            obtain ⟨w2, hrun, hm2⟩ := hm.more (by omega) 10 hla2
            clear hm hla hla2 hnil
            go_wp2_with (at_builtin; refine Lib.wpList_append_run _ rfl _ _ _ _ rfl _ _ rfl rfl _ _ (hrun _) ?_)
            go_roundw
            case rel => exact ⟨k + 1, ms ++ [10], by omega, by simp, by go_num, hm2⟩
            case measure => simp [intOf]; omega
        · rw [if_neg h13] at hla
          by_cases h0 : rs[k] = 0
          · rw [h0] at hcell
            rw [if_pos h0] at hla
            clear h0 h13
            obtain ⟨w2, hrun, hm2⟩ := hm.more (by omega) 65533 hla
            clear hm hla
            go_wp2_with (at_builtin; refine Lib.wpList_append_run _ rfl _ _ _ _ rfl _ _ rfl rfl _ _ (hrun _) ?_)
            go_roundw
            case rel => exact ⟨k + 1, ms ++ [65533], by omega, by simp, by go_num, hm2⟩
            case measure => simp [intOf]; omega
          · rw [if_neg h0] at hla
            generalize rs[k] = x at hcell hla h13 h0
            obtain ⟨w2, hrun, hm2⟩ := hm.more (by omega) x hla
            clear hm hla
            go_wp2_with (at_builtin; refine Lib.wpList_append_run _ rfl _ _ _ _ rfl _ _ rfl rfl _ _ (hrun _) ?_)
            go_roundw
            case rel => exact ⟨k + 1, ms ++ [x], by omega, by simp, by go_num, hm2⟩
            case measure => simp [intOf]; omega
      · obtain rfl : k = rs.length := by omega
        have hsame := hm.same
        rw [List.drop_length, show lines ([] : List Int) = [] from rfl, List.append_nil] at hsame
        obtain ⟨cur2, hg2, h5, h6, _⟩ := hm.cells
        have hle := hm.less
        have hkp := hm.kp
        have ho : Own wr 21 (.slice (some ⟨g, o, none⟩) ms.length c) (r32 (lines rs)) := by
          rw [hsame]
          exact Or.inr ⟨g, o, c, cur2, by rw [r32_len], hg2, by rw [r32_len]; omega, h2, h5, fun j hj => h6 j (by rw [r32_len] at hj; exact hj)⟩
        clear hsame hm hg2 h5 h6
        go_wp2
        go_ret
        exact ⟨ms.length, rfl, hle, ho, hkp⟩

end Go.Proofs.Ytinafcajaikfdaa
