/-
  The document's All: the names, in memory of their own.
-/
import Derived.Test.YtdakgkkcikmcnaaDoorNamed
import Derived.Test.YtdakgkkcikmcnaaDoorRefNamed
import Derived.Test.YtdakgkkcikmcnaaDoorNumber
import Derived.Deep.OwnRows
namespace Go.Proofs.YtdakgkkcikmcnaaDoor
open Go.RowKit Utf

theorem Made.drewN {w w1 : World} {e : TypeId} {ao : Option Addr} {n c : Nat} {xs : List Value} (h : Made w w1 e ao n c xs) (q : Nat) : Made w (w1.drewN q) e ao n c xs := h.kept ((Kp.refl _ _).drewN q)
theorem tx_snoc (L : List ByteArray) (p : ByteArray) : tx L ++ [.string p] = tx (L ++ [p]) := by simp [tx]
theorem take_snoc (k : Nat) (hk : k < NM.length) : NM.take k ++ [NM[k]] = NM.take (k + 1) := (List.take_succ_eq_append_getElem hk).symm


set_option maxHeartbeats 1000000 in
theorem ref_all_any (w : World) : Calls Tryd.prog 7 #[] w fun e w' => ∃ ao n c, e = .returned (.slice ao n c) ∧ Made w w' 9 ao n c (tx NM) := by
  go_enter Tryd.func7, Tryd.ntmps7
  go_wp2_with fail
  refine (table_any w).mono ?_
  rintro e w1 ⟨to, rfl, hr, k1⟩
  go_wp2
  go_loopw [2, 3] (fun v i wr => ∃ (k : Nat) (ao : Option Addr) (n c : Nat), v = .slice ao n c ∧ i = .int .i64 ((2 * k : Nat) : Int) ∧ k ≤ 51 ∧ Made w1 wr 9 ao n c (tx (NM.take k))) (fun _ i _ => 102 - (intOf i).toNat)
  case atStart => exact ⟨0, none, 0, 0, rfl, rfl, by omega, Made.nil _ _⟩
  case round =>
    obtain ⟨k, ao, n, c, rfl, rfl, hk, hm⟩ := hrel
    by_cases hlt : k < 51
    · obtain ⟨b1, o1, rfl, h1⟩ := (hr.kept hm.2.1).tx_at (2 * k) (by rw [tb_len]; omega)
      have hx1 := tb_even k hlt
      have hkn : k < NM.length := by rw [nm_len]; exact hlt
      have e1 : TB[2 * k]'(by rw [tb_len]; omega) = NM[k] := by
        rw [List.getElem?_eq_getElem (by rw [tb_len]; omega), List.getElem?_eq_getElem hkn, Option.some.injEq] at hx1
        exact hx1
      rw [e1] at h1
      obtain ⟨ao', n', c', w4, hrun, hm4⟩ := hm.one Tryd.underlying22 info9 rfl (by decide) (.string NM[k]) rfl (by rw [tx_len]; simp; omega)
      rw [tx_snoc, take_snoc] at hm4
      clear hm hx1 e1
      generalize NM[k] = x at h1 hrun
      go_wp2_with (at_builtin; refine Lib.wpList_append_run _ rfl _ _ _ _ rfl _ _ rfl rfl _ _ (hrun _) ?_)
      go_roundw
      case rel => exact ⟨k + 1, _, _, _, rfl, by go_num, by omega, hm4⟩
      case measure => simp [intOf]; omega
    · obtain rfl : k = 51 := by omega
      go_wp2
      go_ret
      exact ⟨_, _, _, rfl, hm.1, k1.trans hm.2.1 (fun x hx => by simp at hx), fun x hx => Nat.le_trans k1.size (hm.2.2 x hx)⟩


end Go.Proofs.YtdakgkkcikmcnaaDoor
