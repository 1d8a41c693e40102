/-
  The program's end and cutOff, of any text.
-/
import Derived.Test.YthdlmglnieomeaaMarks
import Derived.Test.YthdlmglnieomeaaReads
namespace Go.Proofs.Ythdlmglnieomeaa
open Go.RowKit Utf
set_option linter.unusedVariables false

set_option maxHeartbeats 1000000 in
set_option maxRecDepth 100000 in
theorem end_any (w : World) (s : ByteArray) (p : Nat) (hp : p ≤ s.size) (hs : s.size ≤ 100000) (l : List ByteArray) (hl : solid l) (hz : ∀ x, x ∈ l → x.size ≤ 100) (ao : Option Addr) (n c : Nat) (hr : Rb w ao n c (tx l)) (hn : n ≤ 100) :
    Calls Try.prog 50 #[.string s, .int .i64 (p : Int), .slice ao n c] w fun e w' => e = .returned (.tuple #[.int .i64 (eP s l p : Int), .int .i64 (eN s l p : Int)]) ∧ Kp [] w w' := by
  have hlen : n = l.length := by have := hr.len; rwa [tx_len] at this
  subst hlen
  go_enter Try.func50, Try.ntmps50
  go_wp2
  go_loopw [8] (fun i wr => ∃ k : Nat, p ≤ k ∧ k ≤ s.size ∧ i = .int .i64 k ∧ Kp [] w wr ∧ Hid (∀ j, p ≤ j → j < k → pick s j l = 0)) (fun i _ => s.size - (intOf i).toNat)
  case atStart => exact ⟨p, Nat.le_refl _, hp, rfl, Kp.refl _ _, fun j h1 h2 => by omega⟩
  case round =>
    obtain ⟨k, h1, h2, rfl, kp, hb⟩ := hrel
    by_cases hlt : k < s.size
    · go_wp2
      go_loopw [20] (fun i wy => ∃ m : Nat, m ≤ l.length ∧ i = .int .i64 m ∧ Kp [] w wy ∧ Hid (∀ j (hj : j < l.length), j < m → st s k l[j] = false)) (fun i _ => l.length - (intOf i).toNat)
      case atStart => exact ⟨0, Nat.zero_le _, rfl, kp, fun j hj h => by omega⟩
      case round =>
        obtain ⟨m, h3, rfl, ky, hc⟩ := hrel
        by_cases hlt2 : m < l.length
        · obtain ⟨b, o, rfl, hcell⟩ := (hr.kept ky).tx_at m (by omega)
          have HS := starts_any wr s (k : Int) (l[m]'(by omega)) hs
          rw [pl_of h2] at HS
          have hx1 := hz (l[m]'(by omega)) (List.getElem_mem _)
          have hx0 := hl (l[m]'(by omega)) (List.getElem_mem _)
          cases hx : st s k (l[m]'(by omega)) with
          | true =>
            have hp1 : pick s k l = (l[m]'(by omega)).size := pick_first s k l m (by omega) (fun j hj => hc.out j (by omega) hj) hx
            have he : eP s l p = k := fs_eq ⟨h1, h2, fun j g1 g2 => by rw [hb.out j g1 g2]; rfl, fun _ => decide_eq_true (by rw [hp1]; omega)⟩
            have he2 : Hid (eN s l p = k + (l[m]'(by omega)).size) := by
              show _ = _
              unfold eN
              rw [he, hp1]
            have he1 : Hid (eP s l p = k) := he
            rw [hx] at HS
            generalize (l[m]'(by omega)) = x at HS hcell hx1 hx0 he2
            clear hx hp1 he hb hc
            go_wp2_with fail
            refine HS.mono ?_
            rintro e w2 ⟨rfl, k2⟩
            clear HS
            go_wp2
            go_ret2
            refine ⟨?_, ky.trans k2 (fun z hz => by simp at hz)⟩
            rw [he1.out, he2.out]
            rfl
          | false =>
            have hc2 : Hid (∀ j (hj : j < l.length), j < m + 1 → st s k l[j] = false) := fun j hj g => by
              by_cases hjm : j = m
              · subst hjm; exact hx
              · exact hc.out j hj (by omega)
            rw [hx] at HS
            generalize (l[m]'(by omega)) = x at HS hcell hx1 hx0
            clear hx hb hc
            go_wp2_with fail
            refine HS.mono ?_
            rintro e w2 ⟨rfl, k2⟩
            clear HS
            go_wp2
            go_roundw
            case rel => exact ⟨m + 1, by omega, by go_num, ky.trans k2 (fun z hz => by simp at hz), hc2⟩
            case measure => simp [intOf]; omega
        · have hb2 : Hid (∀ j, p ≤ j → j < k + 1 → pick s j l = 0) := fun j g1 g2 => by
            by_cases hjk : j = k
            · subst hjk
              refine pick_none s j l fun y hy => ?_
              obtain ⟨i, hi, rfl⟩ := List.getElem_of_mem hy
              exact hc.out i hi (by omega)
            · exact hb.out j g1 (by omega)
          clear hb hc
          go_wp2
          go_roundw
          case rel => exact ⟨k + 1, by omega, by omega, by go_num, ky, hb2⟩
          case measure => simp [intOf]; omega
    · obtain rfl : k = s.size := by omega
      have he : eP s l p = s.size := fs_eq ⟨h1, h2, fun j g1 g2 => by rw [hb.out j g1 g2]; rfl, fun h => by omega⟩
      have he2 : Hid (eN s l p = s.size) := eP_end hp he
      have he1 : Hid (eP s l p = s.size) := he
      clear hb he
      go_wp2
      go_ret2
      refine ⟨?_, kp⟩
      rw [he1.out, he2.out]
      rfl

theorem ds_len : DS.length = 3 := rfl

set_option maxHeartbeats 1000000 in
set_option maxRecDepth 100000 in
theorem cutoff_any (w : World) (s : ByteArray) (f : Nat) (hf : f ≤ s.size) (hs : s.size ≤ 100000) :
    Calls Try.prog 51 #[.string s, .int .i64 (f : Int)] w fun e w' => e = .returned (.int .i64 (cutL s f DS : Int)) ∧ Kp [] w w' := by
  have HR : Rb (w.alloc (.cells (tx DS).toArray 9)) (some ⟨w.heap.size, 0, none⟩) 3 3 (tx DS) := rb_lit w 9 _ (tx DS) 3 rfl rfl (by omega)
  have k1 : Kp [] w (w.alloc (.cells (tx DS).toArray 9)) := (Kp.refl _ _).alloc _
  go_enter Try.func51, Try.ntmps51
  go_wp2
  rw [show #[Value.string { data := #[45, 45, 33] }, Value.string { data := #[45, 45] }, Value.string { data := #[45] }] = (tx DS).toArray from rfl]
  generalize w.alloc (.cells (tx DS).toArray 9) = w2 at HR k1 ⊢
  generalize some (⟨w.heap.size, 0, none⟩ : Addr) = ta at HR ⊢
  go_loopw [10] (fun i wr => ∃ m : Nat, m ≤ 3 ∧ i = .int .i64 m ∧ Kp [] w wr ∧ Rb wr ta 3 3 (tx DS) ∧ Hid (cutL s f DS = cutL s f (DS.drop m))) (fun i _ => 3 - (intOf i).toNat)
  case atStart => exact ⟨0, Nat.zero_le _, rfl, k1, HR, rfl⟩
  case round =>
    obtain ⟨m, h3, rfl, ky, rt, hc⟩ := hrel
    clear k1 HR
    by_cases hlt2 : m < 3
    · obtain ⟨b, o, rfl, hcell⟩ := rt.tx_at m (by rw [ds_len]; exact hlt2)
      have hx0 := ds_solid (DS[m]'(by rw [ds_len]; exact hlt2)) (List.getElem_mem _)
      have hst : cutL s f (DS.drop m) = if f + (DS[m]'(by rw [ds_len]; exact hlt2)).size ≤ s.size ∧ st s (s.size - (DS[m]'(by rw [ds_len]; exact hlt2)).size) (DS[m]'(by rw [ds_len]; exact hlt2)) = true then s.size - (DS[m]'(by rw [ds_len]; exact hlt2)).size else cutL s f (DS.drop (m + 1)) := by
        rw [List.drop_eq_getElem_cons (by rw [ds_len]; exact hlt2), cutL]
      have hx1 : (DS[m]'(by rw [ds_len]; exact hlt2)).size ≤ 3 := by
        rcases (show m = 0 ∨ m = 1 ∨ m = 2 by omega) with rfl | rfl | rfl 
        · show D3.size ≤ 3; decide
        · show D2.size ≤ 3; decide
        · show D1.size ≤ 3; decide
      generalize (DS[m]'(by rw [ds_len]; exact hlt2)) = x at hcell hst hx0 hx1
      by_cases hle : f + x.size ≤ s.size
      · have HS := starts_any wr s ((s.size : Int) - (x.size : Int)) x hs
        rw [show (s.size : Int) - (x.size : Int) = ((s.size - x.size : Nat) : Int) by omega, pl_of (by omega), show ((s.size - x.size : Nat) : Int) = (s.size : Int) - (x.size : Int) by omega] at HS
        have hge : (f : Int) ≤ (s.size : Int) - (x.size : Int) := by omega
        cases hx : st s (s.size - x.size) x with
        | true =>
          rw [if_pos ⟨hle, hx⟩] at hst
          have hd : Hid ((cutL s f DS : Int) = (s.size : Int) - (x.size : Int)) := by
            show _ = _
            rw [hc.out, hst]
            omega
          rw [hx] at HS
          clear hst hc hx
          go_wp2_with fail
          refine HS.mono ?_
          rintro e w3 ⟨rfl, k3⟩
          clear HS
          go_wp2
          go_ret
          exact ⟨by rw [hd.out]; rfl, ky.trans k3 (fun z hz => by simp at hz)⟩
        | false =>
          rw [if_neg (by rw [hx]; simp)] at hst
          have hd : Hid (cutL s f DS = cutL s f (DS.drop (m + 1))) := by
            show _ = _
            rw [hc.out, hst]
          rw [hx] at HS
          clear hst hc hx
          go_wp2_with fail
          refine HS.mono ?_
          rintro e w3 ⟨rfl, k3⟩
          clear HS
          go_wp2
          go_roundw
          case rel => exact ⟨m + 1, by omega, by go_num, ky.trans k3 (fun z hz => by simp at hz), rt.kept k3, hd⟩
          case measure => simp [intOf]; omega
      · rw [if_neg (by omega)] at hst
        have hd : Hid (cutL s f DS = cutL s f (DS.drop (m + 1))) := by
          show _ = _
          rw [hc.out, hst]
        have hge : ¬ (f : Int) ≤ (s.size : Int) - (x.size : Int) := by omega
        clear hst hc
        go_wp2
        go_roundw
        case rel => exact ⟨m + 1, by omega, by go_num, ky, rt, hd⟩
        case measure => simp [intOf]; omega
    · obtain rfl : m = 3 := by omega
      have hd : Hid (cutL s f DS = s.size) := by
        show _ = _
        rw [hc.out]
        rfl
      clear hc rt
      go_wp2
      go_ret
      exact ⟨by rw [hd.out]; rfl, ky⟩

end Go.Proofs.Ythdlmglnieomeaa
