/-
  What Same, Roomy and Intact of the books do: lists are held against one another; a list is laid in new memory with marks behind it.
-/
import Derived.Test.YtpjkpobdkmcedaaDoorRbt
import Derived.Test.YtpjkpobdkmcedaaDoorEncA
import Derived.Laws.MakeOwn
import Derived.Laws.IdiomCopy
namespace Go.Proofs.YtpjkpobdkmcedaaDoor
open Go.RowKit Utf


set_option maxHeartbeats 1000000 in
/-- Same, of two lists of bytes that read alike. -/
theorem same_bytes (w : World) (ao bo : Option Addr) (n c m d : Nat) (zs : List Int) (hv : Rb w ao n c (b8 zs)) (hu : Rb w bo m d (b8 zs)) (hl : n ≤ 1000000) :
    Calls Tryd.prog 39 #[.slice ao n c, .slice bo m d] w fun e w' => e = .returned (.bool true) ∧ Kp [] w w' := by
  obtain rfl : n = zs.length := by rw [hv.len, b8_len]
  obtain rfl : m = zs.length := by rw [hu.len, b8_len]
  go_enter Tryd.func39, Tryd.ntmps39
  go_wp2
  go_loopw [5] (fun i wr => ∃ k q : Nat, k ≤ zs.length ∧ i = .int .i64 k ∧ wr = w.drewN q) (fun i _ => zs.length - (intOf i).toNat)
  case atStart => exact ⟨0, 0, Nat.zero_le _, rfl, rfl⟩
  case round =>
    obtain ⟨k, q, hk, rfl, rfl⟩ := hrel
    by_cases hlt : k < zs.length
    · obtain ⟨b1, o1, rfl, h1⟩ := hv.b8_at k hlt
      obtain ⟨b2, o2, rfl, h2⟩ := hu.b8_at k hlt
      obtain ⟨x, hx⟩ : ∃ x, x = zs[k] := ⟨_, rfl⟩
      rw [← hx] at h1 h2
      clear hx hv hu
      go_wp2
      go_region
      all_goals (try go_wp2)
      all_goals
        go_roundw
        case rel => exact ⟨k + 1, q + 1, by omega, by go_num, rfl⟩
        case measure => simp [intOf]; omega
    · go_wp2
      go_ret
      exact ⟨rfl, (Kp.refl _ _).drewN q⟩

/-- The room behind a list: its marks. -/
def roomy (l : List Int) : List Int := l ++ List.replicate 80 165

theorem roomy_len (l : List Int) : (roomy l).length = l.length + 80 := by simp [roomy]
theorem roomy_take (l : List Int) : (roomy l).take l.length = l := by simp [roomy]
theorem roomy_at (l : List Int) (k : Nat) (h1 : l.length ≤ k) (h2 : k < l.length + 80) : (roomy l)[k]? = some 165 := by
  unfold roomy
  rw [List.getElem?_append_right h1, List.getElem?_replicate]
  rw [if_pos (by omega)]

set_option maxHeartbeats 1000000 in
/-- Intact, of what Roomy made. -/
theorem intact_any (w : World) (ao bo : Option Addr) (n c m d : Nat) (zs : List Int) (hv : Rb w ao n c (b8 (roomy zs))) (hu : Rb w bo m d (b8 zs)) (hl : m ≤ 100000) :
    Calls Tryd.prog 21 #[.slice ao n c, .slice bo m d, .int .u8 165] w fun e w' => e = .returned (.bool true) ∧ Kp [] w w' := by
  obtain rfl : n = zs.length + 80 := by rw [hv.len, b8_len, roomy_len]
  obtain rfl : m = zs.length := by rw [hu.len, b8_len]
  have hc := hv.cap
  have ht := hv.take zs.length (by omega)
  rw [b8_take, roomy_take] at ht
  have HS := same_bytes w ao bo _ _ _ _ zs ht hu (by omega)
  clear ht hu
  go_enter Tryd.func21, Tryd.ntmps21
  go_wp2_with fail
  refine HS.mono ?_
  rintro e w1 ⟨rfl, k1⟩
  have hv1 := hv.kept k1
  clear HS hv
  go_wp2
  go_loopw [7] (fun i wr => ∃ k : Nat, zs.length ≤ k ∧ k ≤ zs.length + 80 ∧ i = .int .i64 k ∧ wr = w1) (fun i _ => zs.length + 80 - (intOf i).toNat)
  case atStart => exact ⟨zs.length, Nat.le_refl _, by omega, rfl, rfl⟩
  case round =>
    obtain ⟨k, hk1, hk2, rfl, rfl⟩ := hrel
    by_cases hlt : k < zs.length + 80
    · obtain ⟨b1, o1, rfl, h1⟩ := hv1.b8_at k (by rw [roomy_len]; exact hlt)
      have hx : (roomy zs)[k]'(by rw [roomy_len]; exact hlt) = 165 := by
        have := roomy_at zs k hk1 hlt
        rw [List.getElem?_eq_some_iff] at this
        exact this.2
      rw [hx] at h1
      clear hx hv1
      go_wp2
      go_roundw
      case rel => exact ⟨k + 1, by omega, by omega, by go_num, trivial⟩
      case measure => simp [intOf]; omega
    · go_wp2
      go_ret
      exact ⟨rfl, k1⟩

end Go.Proofs.YtpjkpobdkmcedaaDoor
