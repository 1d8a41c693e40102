/-
  All, the program's and the document's: the names, in memory of their own; Same, Head and Within.
-/
import Derived.Test.YtidkcfblfibaaaaDoorNamed
import Derived.Test.YtidkcfblfibaaaaDoorRefNamed
import Derived.Test.YtidkcfblfibaaaaDoorNumber
import Derived.Deep.OwnRows
namespace Go.Proofs.YtidkcfblfibaaaaDoor
open Go.RowKit Utf

theorem Made.drewN {w w1 : World} {e : TypeId} {ao : Option Addr} {n c : Nat} {xs : List Value} (h : Made w w1 e ao n c xs) (q : Nat) : Made w (w1.drewN q) e ao n c xs := h.kept ((Kp.refl _ _).drewN q)
theorem tx_snoc (L : List ByteArray) (p : ByteArray) : tx L ++ [.string p] = tx (L ++ [p]) := by simp [tx]
theorem take_snoc (k : Nat) (hk : k < NM.length) : NM.take k ++ [NM[k]] = NM.take (k + 1) := (List.take_succ_eq_append_getElem hk).symm

set_option maxHeartbeats 1000000 in
theorem all_any (w : World) (hn : Nm w) : Calls Tryd.prog 9 #[] w fun e w' => ∃ ao n c, e = .returned (.slice ao n c) ∧ Made w w' 9 ao n c (tx NM) := by
  obtain ⟨to, tc, hc, hr⟩ := hn
  obtain ⟨i0, hi0, hz0, hz1, hz2⟩ := info_parts info9
  obtain ⟨MC, hMC⟩ : ∃ MC, MC = madeCells (((Value.string ⟨#[]⟩) : Value).cells) (51 * 1) := ⟨_, rfl⟩
  have hMs : MC.size = 51 := by rw [hMC, size_madeCells]
  have hmk : (Instr.makeSlice 22 (.int .i64 0) (.int .i64 51)).run Tryd.prog w = .ok (.slice (some ⟨w.heap.size, 0, none⟩) 0 51) (w.alloc (.cells MC 9)) := by
    have h1 := run_make (P := Tryd.prog) w 22 9 i0 (Value.string ⟨#[]⟩) Tryd.underlying22 hi0 hz0 .i64 .i64 0 51 (by omega) (by omega) (by rw [hz2]; omega) (by omega)
    rw [hz1] at h1
    rw [hMC]
    exact h1
  have HM : Made w (w.alloc (.cells MC 9)) 9 (some ⟨w.heap.size, 0, none⟩) 0 51 (tx (NM.take 0)) :=
    ⟨own_made w 9 MC 51 (by unfold maxLen; omega) hMs, (Kp.refl _ _).alloc _, fun k hk => by simp [blk] at hk; omega⟩
  have hc1 : (w.alloc (.cells MC 9)).cell? ⟨0, 0, none⟩ = some (.slice to 51 tc) := by
    rw [((Kp.refl [] w).alloc _).cell (block_lt_of_cell hc) (by simp)]
    exact hc
  clear hMC hMs hi0 hz0 hz1 hz2
  go_enter Tryd.func9, Tryd.ntmps9
  go_upto_region 2 with fail
  generalize w.alloc (.cells MC 9) = w1 at HM hc1 ⊢
  generalize some (⟨w.heap.size, 0, none⟩ : Addr) = a0 at HM ⊢
  clear hmk
  go_wp2
  go_loopw [1, 9] (fun v i wr => ∃ (k : Nat) (ao : Option Addr) (n c : Nat), v = .slice ao n c ∧ i = .int .i64 (k : Int) ∧ k ≤ 51 ∧ Made w wr 9 ao n c (tx (NM.take k))) (fun _ i _ => 51 - (intOf i).toNat)
  case atStart => exact ⟨0, a0, 0, 51, rfl, rfl, by omega, HM⟩
  case round =>
    obtain ⟨k, ao, n, c, rfl, rfl, hk, hm⟩ := hrel
    clear HM hc1 hc
    by_cases hlt : k < 51
    · obtain ⟨b1, o1, rfl, h1⟩ := (hr.kept hm.2.1).tx_at k (by rw [nm_len]; omega)
      have hkn : k < NM.length := by rw [nm_len]; exact hlt
      obtain ⟨ao', n', c', w4, hrun, hm4⟩ := hm.one Tryd.underlying22 info9 rfl (by decide) (.string NM[k]) rfl (by rw [tx_len]; simp; omega)
      rw [tx_snoc, take_snoc] at hm4
      clear hm
      generalize NM[k] = x at h1 hrun
      go_wp2_with (at_builtin; refine Lib.wpList_append_run _ rfl _ _ _ _ rfl _ _ rfl rfl _ _ (hrun _) ?_)
      go_roundw
      case rel => exact ⟨k + 1, _, _, _, rfl, by go_num, by omega, hm4⟩
      case measure => simp [intOf]; omega
    · obtain rfl : k = 51 := by omega
      go_wp2
      go_ret
      exact ⟨_, _, _, rfl, hm⟩

set_option maxHeartbeats 1000000 in
theorem ref_all_any (w : World) : Calls Tryd.prog 7 #[] w fun e w' => ∃ ao n c, e = .returned (.slice ao n c) ∧ Made w w' 9 ao n c (tx NM) := by
  go_enter Tryd.func7, Tryd.ntmps7
  go_wp2_with fail
  refine (table_any w).mono ?_
  rintro e w1 ⟨to, rfl, hr, k1⟩
  go_wp2
  go_loopw [2, 3] (fun v i wr => ∃ (k : Nat) (ao : Option Addr) (n c : Nat), v = .slice ao n c ∧ i = .int .i64 ((2 * k : Nat) : Int) ∧ k ≤ 51 ∧ Made w1 wr 9 ao n c (tx (NM.take k))) (fun _ i _ => 102 - (intOf i).toNat)
  case atStart => exact ⟨0, none, 0, 0, rfl, rfl, by omega, Made.nil _ _⟩
  case round =>
    obtain ⟨k, ao, n, c, rfl, rfl, hk, hm⟩ := hrel
    by_cases hlt : k < 51
    · obtain ⟨b1, o1, rfl, h1⟩ := (hr.kept hm.2.1).tx_at (2 * k) (by rw [tb_len]; omega)
      have hx1 := tb_even k hlt
      have hkn : k < NM.length := by rw [nm_len]; exact hlt
      have e1 : TB[2 * k]'(by rw [tb_len]; omega) = NM[k] := by
        rw [List.getElem?_eq_getElem (by rw [tb_len]; omega), List.getElem?_eq_getElem hkn, Option.some.injEq] at hx1
        exact hx1
      rw [e1] at h1
      obtain ⟨ao', n', c', w4, hrun, hm4⟩ := hm.one Tryd.underlying22 info9 rfl (by decide) (.string NM[k]) rfl (by rw [tx_len]; simp; omega)
      rw [tx_snoc, take_snoc] at hm4
      clear hm hx1 e1
      generalize NM[k] = x at h1 hrun
      go_wp2_with (at_builtin; refine Lib.wpList_append_run _ rfl _ _ _ _ rfl _ _ rfl rfl _ _ (hrun _) ?_)
      go_roundw
      case rel => exact ⟨k + 1, _, _, _, rfl, by go_num, by omega, hm4⟩
      case measure => simp [intOf]; omega
    · obtain rfl : k = 51 := by omega
      go_wp2
      go_ret
      exact ⟨_, _, _, rfl, hm.1, k1.trans hm.2.1 (fun x hx => by simp at hx), fun x hx => Nat.le_trans k1.size (hm.2.2 x hx)⟩

set_option maxHeartbeats 1000000 in
/-- Same, of two lists of texts that read alike. -/
theorem same_texts (w : World) (ao bo : Option Addr) (n c m d : Nat) (zs : List ByteArray) (hv : Rb w ao n c (tx zs)) (hu : Rb w bo m d (tx zs)) (hl : n ≤ 1000000) :
    Calls Tryd.prog 8 #[.slice ao n c, .slice bo m d] w fun e w' => e = .returned (.bool true) ∧ Kp [] w w' := by
  obtain rfl : n = zs.length := by rw [hv.len, tx_len]
  obtain rfl : m = zs.length := by rw [hu.len, tx_len]
  go_enter Tryd.func8, Tryd.ntmps8
  go_wp2
  go_loopw [5] (fun i wr => ∃ k q : Nat, k ≤ zs.length ∧ i = .int .i64 k ∧ wr = w.drewN q) (fun i _ => zs.length - (intOf i).toNat)
  case atStart => exact ⟨0, 0, Nat.zero_le _, rfl, rfl⟩
  case round =>
    obtain ⟨k, q, hk, rfl, rfl⟩ := hrel
    by_cases hlt : k < zs.length
    · obtain ⟨b1, o1, rfl, h1⟩ := hv.tx_at k hlt
      obtain ⟨b2, o2, rfl, h2⟩ := hu.tx_at k hlt
      obtain ⟨x, hx⟩ : ∃ x, x = zs[k] := ⟨_, rfl⟩
      rw [← hx] at h1 h2
      clear hx hv hu
      go_wp2
      go_region
      all_goals (try go_wp2)
      all_goals
        go_roundw
        case rel => exact ⟨k + 1, q + 1, by omega, by go_num, rfl⟩
        case measure => simp [intOf]; omega
    · go_wp2
      go_ret
      exact ⟨rfl, (Kp.refl _ _).drewN q⟩

/-- No more of a text than m bytes. -/
theorem head_any (w : World) (s : ByteArray) (m : Nat) (hm : m ≤ 1000) : Calls Tryd.prog 14 #[.string s, .int .i64 (m : Int)] w fun e w' => e = .returned (.string (if m < s.size then s.extract 0 m else s)) ∧ w' = w := by
  by_cases h : m < s.size
  · rw [if_pos h]
    go_enter Tryd.func14, Tryd.ntmps14
    go_wp2
    go_ret
    exact ⟨rfl, rfl⟩
  · rw [if_neg h]
    go_enter Tryd.func14, Tryd.ntmps14
    go_wp2
    go_ret
    exact ⟨rfl, rfl⟩

theorem head_size (s : ByteArray) (m : Nat) : (if m < s.size then s.extract 0 m else s).size ≤ m := by
  split
  · simp
    omega
  · omega

/-- A number brought into the range from 0 to m. -/
def wi (n : Int) (m : Nat) : Nat := (if n.tmod ((m : Int) + 1) < 0 then n.tmod ((m : Int) + 1) + ((m : Int) + 1) else n.tmod ((m : Int) + 1)).toNat

theorem wi_le (n : Int) (m : Nat) : wi n m ≤ m := by
  have t1 : n.tmod ((m : Int) + 1) < (m : Int) + 1 := Int.tmod_lt_of_pos n (by omega)
  have t2 : -((m : Int) + 1) < n.tmod ((m : Int) + 1) := Int.lt_tmod_of_pos n (by omega)
  unfold wi
  split <;> omega

theorem within_any (w : World) (n : Int) (m : Nat) (hm : m ≤ 2000000) : Calls Tryd.prog 15 #[.int .i64 n, .int .i64 0, .int .i64 (m : Int)] w fun e w' => e = .returned (.int .i64 (wi n m : Int)) ∧ w' = w := by
  have t1 : n.tmod ((m : Int) + 1) < (m : Int) + 1 := Int.tmod_lt_of_pos n (by omega)
  have t2 : -((m : Int) + 1) < n.tmod ((m : Int) + 1) := Int.lt_tmod_of_pos n (by omega)
  by_cases h : n.tmod ((m : Int) + 1) < 0
  · have hw : (wi n m : Int) = n.tmod ((m : Int) + 1) + ((m : Int) + 1) := by
      unfold wi
      rw [if_pos h]
      omega
    rw [hw]
    clear hw
    go_enter Tryd.func15, Tryd.ntmps15
    go_wp2
    go_ret
    refine ⟨?_, rfl⟩
    show Ending.returned (.int .i64 _) = _
    congr 2
    omega
  · have hw : (wi n m : Int) = n.tmod ((m : Int) + 1) := by
      unfold wi
      rw [if_neg h]
      omega
    rw [hw]
    clear hw
    go_enter Tryd.func15, Tryd.ntmps15
    go_wp2
    go_ret
    refine ⟨?_, rfl⟩
    show Ending.returned (.int .i64 _) = _
    congr 2

end Go.Proofs.YtidkcfblfibaaaaDoor
