/-
  The walk of StackTurns: whatever list of ints it is given, it answers true, and leaves what was there as it was.
-/
import Derived.Test.YtfnacibhmanblaaIntsE
import Derived.Test.YtfnacibhmanblaaKnown
import Derived.Deep.DeepCutAuto
namespace Go.Proofs.Ytfnacibhmanblaa
open Go.RowKit Ints

set_option maxHeartbeats 2000000 in
set_option maxRecDepth 100000 in
theorem turns_any (w : World) (ao : Option Addr) (n c : Nat) (ys : List Int) (hlen : (n ≤ 200 ∧ ys.length = n) ∨ (200 < n ∧ ys.length = 200)) (hn : n ≤ c) (hcm : c ≤ 9223372036854775807) (hr : Rd w (.slice ao ys.length c) (ys.map (Value.int .i64))) :
    Calls Try.prog 5 #[.slice ao n c] w fun e w' => e = .returned (.bool true) ∧ Kp [] w w' := by
  have hys : ys.length ≤ 200 := by omega
  go_enter Try.func5, Try.ntmps5
  go_upto_if 14 with fail
  go_cut [0] (fun s0 wc => s0 = .slice ao ys.length c ∧ wc = w)
  case first =>
    rcases hlen with ⟨h1, h2⟩ | ⟨h1, h2⟩
    · subst h2
      clear hr
      go_wp2
      go_meet
      case rel => exact ⟨rfl, rfl⟩
    · obtain ⟨ao', c', he, hcs⟩ := hr
      simp only [List.length_map, Value.slice.injEq] at he
      obtain ⟨rfl, _, rfl⟩ := he
      obtain ⟨b, off, rfl, _⟩ := hcs 0 (by simp; omega)
      have H2 : Hid (ys.length = 200) := h2
      clear hcs h2
      go_wp2
      go_meet
      case rel => exact ⟨by rw [H2.out], rfl⟩
  case rest =>
    obtain ⟨rfl, rfl⟩ := hcut
    clear hlen
    go_wp2_with fail
    refine (new_any _).mono ?_
    rintro e w1 ⟨rfl, rfl⟩
    have i1 := Inv.new wc
    generalize wc.alloc (.cells #[.slice none 0 0] 49) = w1 at i1 ⊢
    generalize wc.heap.size = p at i1 ⊢
    go_wp2_with fail
    go_loopw [4] (fun i wr => ∃ k v, k ≤ ys.length ∧ i = .int .i64 (k : Nat) ∧ Inv wc wr p v (ys.take k)) (fun i _ => ys.length - (intOf i).toNat)
    case atStart => exact ⟨0, _, Nat.zero_le _, rfl, i1⟩
    case round =>
      obtain ⟨k, v, hk, rfl, inv⟩ := hrel
      clear i1
      by_cases hlt : k < ys.length
      · obtain ⟨b, off, rfl, hcell⟩ := rd_at (hr.kept inv.2.1) k hlt
        obtain ⟨x, hx⟩ : ∃ x, x = ys[k] := ⟨_, rfl⟩
        rw [← hx] at hcell
        have hT : Hid (ys.take (k + 1) = ys.take k ++ [x]) := by
          show _ = _
          rw [hx, List.take_succ_eq_append_getElem hlt]
        have hpush := push_any _ _ _ _ x inv.1 (by simp; omega)
        have HP := hpush
        clear hpush hx hr
        go_wp2_with fail
        refine HP.mono ?_
        rintro e w2 ⟨rfl, t2⟩
        obtain ⟨v2, i2⟩ := inv.step t2
        rw [← hT.out] at i2
        clear HP t2 inv
        go_wp2
        go_roundw
        case rel => exact ⟨k + 1, v2, by omega, by go_num, i2⟩
        case measure => simp [intOf]; omega
      · obtain rfl : k = ys.length := by omega
        rw [List.take_length] at inv
        go_wp2_with fail
        refine (all_any _ _ _ _ inv.1 (by omega)).mono ?_
        rintro e w2 ⟨rfl, o2, k2⟩
        have i2 := inv.kept k2
        have hfr : ∀ y, y ∈ [wr.heap.size] → y ∉ p :: blk v := fun y hy hx => by
          simp only [List.mem_singleton] at hy
          subst hy
          rcases List.mem_cons.1 hx with h1 | h1
          · have := (Array.getElem?_eq_some_iff.1 inv.1.1).1
            omega
          · have := inv.1.2.1.lt _ h1
            omega
        have hge : wc.heap.size ≤ wr.heap.size := inv.2.1.size
        generalize wr.heap.size = g at o2 hfr hge ⊢
        have hr2 := hr.kept i2.2.1
        have HS := same_eq _ _ _ _ o2.rd hr2 (by omega)
        clear hr2 k2 inv
        go_wp2_with fail
        refine HS.mono ?_
        rintro e w3 ⟨rfl, q, rfl⟩
        have i3 := i2.kept ((Kp.refl [] _).drewN q)
        have o3 := o2.keep ((Kp.refl [] _).drewN q) (fun _ _ => by simp)
        generalize w2.drewN q = w3 at i3 o3 ⊢
        clear HS i2 o2
        go_wp2_with fail
        clear hlt hk
        obtain ⟨wo, rfl⟩ : ∃ wo : World, wo = wr := ⟨_, rfl⟩
        go_loopw [6] (fun i wr => ∃ (k : Nat) (us : List Int), k ≤ ys.length ∧ i = .int .i64 (k : Nat) ∧ us.length = ys.length ∧ Inv wc wr p v ys ∧ Own wr 3 (.slice (some ⟨g, 0, none⟩) ys.length ys.length) (us.map (Value.int .i64))) (fun i _ => ys.length - (intOf i).toNat)
        case atStart => exact ⟨0, ys, Nat.zero_le _, rfl, rfl, i3, o3⟩
        case round =>
          obtain ⟨k, us, hk, rfl, hul, inv, own⟩ := hrel
          clear i3 o3
          by_cases hlt : k < ys.length
          · obtain ⟨hcell, hfz⟩ := own.get k (by simp; omega)
            rw [List.getElem_map] at hcell
            obtain ⟨x, hx⟩ : ∃ x, x = us[k] := ⟨_, rfl⟩
            rw [← hx] at hcell
            have HN : Hid (∀ y : Int, Inv wc (wr.setCell ⟨g, k, none⟩ (.int .i64 y)) p v ys ∧ Own (wr.setCell ⟨g, k, none⟩ (.int .i64 y)) 3 (.slice (some ⟨g, 0, none⟩) ys.length ys.length) ((us.set k y).map (Value.int .i64))) := by
              intro y
              have hkp : Kp [g] wr (wr.setCell ⟨g, k, none⟩ (.int .i64 y)) := (Kp.refl _ _).setCell (Or.inl (by simp)) _
              refine ⟨⟨inv.1.kept hkp (fun h => hfr p h (by simp)) (fun z hz h => hfr z h (by simp [hz])), inv.2.1.trans hkp (fun z hz => Or.inr (by simp at hz; omega)), inv.2.2⟩, ?_⟩
              rw [List.map_set]
              exact own.stored k _
            have HU : Hid (us.length = ys.length) := hul
            clear hx own inv hr hul hfr
            go_wp2
            go_roundw
            case rel => exact ⟨k + 1, _, by omega, by go_num, by rw [List.length_set]; exact HU.out, (HN.out _).1, (HN.out _).2⟩
            case measure => simp [intOf]; omega
          · clear own hul hfr
            obtain ⟨wo2, rfl⟩ : ∃ wo2 : World, wo2 = wr := ⟨_, rfl⟩
            go_wp2_with fail
            go_loopw [7, 8, 9] (fun i _ _ wr => ∃ (k : Nat) (v : Value), k ≤ ys.length ∧ i = .int .i64 ((k : Int) - 1) ∧ Inv wc wr p v (ys.take k)) (fun i _ _ _ => (intOf i + 1).toNat)
            case atStart => exact ⟨ys.length, v, Nat.le_refl _, rfl, by rw [List.take_length]; exact inv⟩
            case round =>
              clear inv
              obtain ⟨m, v, hm, rfl, inv⟩ := hrel
              by_cases h0 : 0 < m
              · obtain ⟨b, off, rfl, hcell⟩ := rd_at (hr.kept inv.2.1) (m - 1) (by omega)
                obtain ⟨x, hx⟩ : ∃ x, x = ys[m - 1] := ⟨_, rfl⟩
                rw [← hx] at hcell
                have hl : (ys.take m).length = m := by simp; omega
                have hget : (ys.take m)[(ys.take m).length - 1]? = some x := by
                  rw [hl, List.getElem?_take, if_pos (by omega), List.getElem?_eq_getElem (by omega), hx]
                have HP := pop_in _ _ _ _ inv.1 (by omega) x hget
                rw [hl, List.take_take, Nat.min_eq_left (by omega)] at HP
                obtain ⟨m', rfl⟩ : ∃ m', m = m' + 1 := ⟨m - 1, by omega⟩
                simp only [Nat.add_sub_cancel] at HP hcell
                have hr2 := hr
                have HR : Hid (Rd wc (.slice (some ⟨b, off, none⟩) ys.length c) (ys.map (Value.int .i64))) := hr2
                clear hget hl hx hr2
                go_wp2_with fail
                refine HP.mono ?_
                rintro e w4 ⟨rfl, t4⟩
                obtain ⟨v4, i4⟩ := inv.step t4
                have hcell4 : w4.cell? ⟨b, off + m', none⟩ = some (.int .i64 x) := by
                  have hb : b < wc.heap.size := by
                    obtain ⟨b', off', he, hcc⟩ := rd_at HR.out 0 (by omega)
                    simp only [Option.some.injEq, Addr.mk.injEq] at he
                    obtain ⟨rfl, _⟩ := he
                    exact block_lt_of_cell hcc
                  rw [i4.2.1.cell (a := ⟨b, off + m', none⟩) hb (by simp), ← inv.2.1.cell (a := ⟨b, off + m', none⟩) hb (by simp)]
                  exact hcell
                have HL := len_any _ _ _ _ i4.1
                rw [List.length_take, Nat.min_eq_left (by omega)] at HL
                clear HP t4 inv hcell hr
                go_wp2_with fail
                refine HL.mono ?_
                rintro e w5 ⟨rfl, rfl⟩
                clear HL hcell4
                go_wp2
                go_roundw
                case rel => exact ⟨m', v4, by omega, by go_num, i4⟩
                case measure => simp [intOf]
              · obtain rfl : m = 0 := by omega
                rw [List.take_zero] at inv
                clear hr
                go_wp2_with fail
                refine (pop_out _ _ _ inv.1).mono ?_
                rintro e w4 ⟨rfl, rfl⟩
                go_wp2_with fail
                refine (all_any _ _ _ _ inv.1 (by simp)).mono ?_
                rintro e w5 ⟨rfl, o5, k5⟩
                have i5 := inv.kept k5
                clear inv o5 k5
                go_wp2_with fail
                refine (known_any _).mono ?_
                rintro e w6 ⟨rfl, k6⟩
                have hk := i5.2.1.trans k6 (fun x hx => by simp at hx)
                clear i5 k6
                go_wp2
                go_ret
                exact ⟨rfl, hk⟩

end Go.Proofs.Ytfnacibhmanblaa
