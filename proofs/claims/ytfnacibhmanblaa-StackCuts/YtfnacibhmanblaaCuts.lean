/-
  The walk of StackCuts: whatever it is given, it answers true, and leaves what was there as it was.
-/
import Derived.Test.YtfnacibhmanblaaIntsE
import Derived.Test.YtfnacibhmanblaaKnown
import Derived.Deep.DeepCutAuto
namespace Go.Proofs.Ytfnacibhmanblaa
open Go.RowKit Ints

theorem tmod_facts (a : Int) (m : Nat) : -(m : Int) ≤ a.tmod ((m : Int) + 1) ∧ a.tmod ((m : Int) + 1) ≤ m := by
  have h1 := Int.tmod_lt_of_pos a (show (0 : Int) < (m : Int) + 1 by omega)
  have h2 := Int.lt_tmod_of_pos a (show (0 : Int) < (m : Int) + 1 by omega)
  omega

theorem within_any (w : World) (a : Int) (m : Nat) (hm : m ≤ 100) :
    Calls Try.prog 17 #[.int .i64 a, .int .i64 0, .int .i64 (m : Nat)] w fun e w' => (∃ k : Nat, k ≤ m ∧ e = .returned (.int .i64 (k : Nat))) ∧ w' = w := by
  have h := tmod_facts a m
  obtain ⟨r, hr⟩ : ∃ r, r = a.tmod ((m : Int) + 1) := ⟨_, rfl⟩
  rw [← hr] at h
  have hr' : a.tmod ((m : Int) + 1) = r := hr.symm
  clear hr
  by_cases h0 : r < 0
  · go_enter Try.func17, Try.ntmps17
    go_wp2
    go_ret
    exact ⟨⟨(r + m + 1).toNat, by omega, by simp; omega⟩, rfl⟩
  · go_enter Try.func17, Try.ntmps17
    go_wp2
    go_ret
    exact ⟨⟨r.toNat, by omega, by simp; omega⟩, rfl⟩

set_option maxHeartbeats 2000000 in
set_option maxRecDepth 100000 in
theorem cuts_any (w : World) (ao : Option Addr) (n c : Nat) (ys : List Int) (at' x : Int) (hlen : (n ≤ 100 ∧ ys.length = n) ∨ (100 < n ∧ ys.length = 100)) (hn : n ≤ c) (hcm : c ≤ 9223372036854775807) (hr : Rd w (.slice ao ys.length c) (ys.map (Value.int .i64))) :
    Calls Try.prog 6 #[.slice ao n c, .int .i64 at', .int .i64 x] w fun e w' => e = .returned (.bool true) ∧ Kp [] w w' := by
  have hys : ys.length ≤ 100 := by omega
  go_enter Try.func6, Try.ntmps6
  go_upto_if 16 with fail
  go_cut [0] (fun s0 wc => s0 = .slice ao ys.length c ∧ wc = w)
  case first =>
    rcases hlen with ⟨h1, h2⟩ | ⟨h1, h2⟩
    · subst h2
      clear hr
      go_wp2
      go_meet
      case rel => exact ⟨rfl, rfl⟩
    · obtain ⟨ao', c', he, hcs⟩ := hr
      simp only [List.length_map, Value.slice.injEq] at he
      obtain ⟨rfl, _, rfl⟩ := he
      obtain ⟨b, off, rfl, _⟩ := hcs 0 (by simp; omega)
      have H2 : Hid (ys.length = 100) := h2
      clear hcs h2
      go_wp2
      go_meet
      case rel => exact ⟨by rw [H2.out], rfl⟩
  case rest =>
    obtain ⟨rfl, rfl⟩ := hcut
    clear hlen
    go_wp2_with fail
    refine (new_any _).mono ?_
    rintro e w1 ⟨rfl, rfl⟩
    have i1 := Inv.new wc
    generalize wc.alloc (.cells #[.slice none 0 0] 49) = w1 at i1 ⊢
    generalize wc.heap.size = p at i1 ⊢
    go_wp2_with fail
    go_loopw [8] (fun i wr => ∃ k v, k ≤ ys.length ∧ i = .int .i64 (k : Nat) ∧ Inv wc wr p v (ys.take k)) (fun i _ => ys.length - (intOf i).toNat)
    case atStart => exact ⟨0, _, Nat.zero_le _, rfl, i1⟩
    case round =>
      obtain ⟨k, v, hk, rfl, inv⟩ := hrel
      clear i1
      by_cases hlt : k < ys.length
      · obtain ⟨b, off, rfl, hcell⟩ := rd_at (hr.kept inv.2.1) k hlt
        obtain ⟨x, hx⟩ : ∃ x, x = ys[k] := ⟨_, rfl⟩
        rw [← hx] at hcell
        have hT : Hid (ys.take (k + 1) = ys.take k ++ [x]) := by
          show _ = _
          rw [hx, List.take_succ_eq_append_getElem hlt]
        have HP := push_any _ _ _ _ x inv.1 (by simp; omega)
        clear hx hr
        go_wp2_with fail
        refine HP.mono ?_
        rintro e w2 ⟨rfl, t2⟩
        obtain ⟨v2, i2⟩ := inv.step t2
        rw [← hT.out] at i2
        clear HP t2 inv
        go_wp2
        go_roundw
        case rel => exact ⟨k + 1, v2, by omega, by go_num, i2⟩
        case measure => simp [intOf]; omega
      · obtain rfl : k = ys.length := by omega
        rw [List.take_length] at inv
        go_wp2_with fail
        refine (within_any _ _ _ hys).mono ?_
        rintro e w2 ⟨⟨j, hj, rfl⟩, rfl⟩
        go_wp2_with fail
        have HP := put_in _ _ _ _ (j : Int) x inv.1 (by omega) (by omega) (by omega)
        rw [Int.toNat_natCast] at HP
        refine HP.mono ?_
        rintro e w3 ⟨rfl, t3⟩
        obtain ⟨v3, i3⟩ := inv.step t3
        clear HP t3 inv
        have hl3 : (ys.take j ++ x :: ys.drop j).length = ys.length + 1 := by simp; omega
        have hg3 : (ys.take j ++ x :: ys.drop j)[((j : Nat) : Int).toNat]? = some x := by
          rw [Int.toNat_natCast, List.getElem?_append_right (by simp; omega)]
          simp [Nat.min_eq_left hj]
        have hd3 : (ys.take j ++ x :: ys.drop j).take ((j : Nat) : Int).toNat ++ (ys.take j ++ x :: ys.drop j).drop (((j : Nat) : Int).toNat + 1) = ys := by
          rw [Int.toNat_natCast, List.take_append_of_le_length (by simp; omega), List.drop_append, List.take_take, Nat.min_self, List.length_take, Nat.min_eq_left hj, show j + 1 - j = 1 by omega, List.drop_eq_nil_of_le (by simp; omega)]
          simp
        obtain ⟨zs, hzs⟩ : ∃ zs, zs = ys.take j ++ x :: ys.drop j := ⟨_, rfl⟩
        rw [← hzs] at i3 hl3 hg3 hd3
        have HL := len_any _ _ _ _ i3.1
        have HA := at_in _ _ _ _ (j : Int) i3.1 (by omega) (by omega) x hg3
        have HO1 := put_out _ _ _ _ ((ys.length : Int) + 2) x i3.1 (by right; omega)
        have HO2 := put_out _ _ _ _ (-1) x i3.1 (by left; omega)
        have HC := cut_in _ _ _ _ (j : Int) i3.1 (by omega) (by omega) (by omega) x hg3
        rw [hd3] at HC
        rw [hl3] at HL
        clear hzs hd3 hg3 hl3
        go_wp2_with fail
        refine HL.mono ?_
        rintro e w4 ⟨rfl, rfl⟩
        clear HL
        go_wp2_with fail
        refine HA.mono ?_
        rintro e w4 ⟨rfl, rfl⟩
        clear HA
        go_wp2_with fail
        refine HO1.mono ?_
        rintro e w4 ⟨rfl, rfl⟩
        clear HO1
        go_wp2_with fail
        refine HO2.mono ?_
        rintro e w4 ⟨rfl, rfl⟩
        clear HO2
        go_wp2_with fail
        refine HC.mono ?_
        rintro e w4 ⟨rfl, t4⟩
        obtain ⟨v4, i4⟩ := i3.step t4
        clear HC t4 i3
        go_wp2_with fail
        refine (all_any _ _ _ _ i4.1 (by omega)).mono ?_
        rintro e w5 ⟨rfl, o5, k5⟩
        have i5 := i4.kept k5
        have HS := same_eq _ _ _ _ o5.rd (hr.kept i5.2.1) (by omega)
        clear i4 o5 k5 hr
        go_wp2_with fail
        refine HS.mono ?_
        rintro e w6 ⟨rfl, q, rfl⟩
        have i6 := i5.kept ((Kp.refl [] _).drewN q)
        clear i5 HS
        go_wp2_with fail
        refine (known_any _).mono ?_
        rintro e w7 ⟨rfl, k7⟩
        have hkk := i6.2.1.trans k7 (fun x hx => by simp at hx)
        clear i6 k7
        go_wp2
        go_ret
        exact ⟨rfl, hkk⟩

end Go.Proofs.Ytfnacibhmanblaa
