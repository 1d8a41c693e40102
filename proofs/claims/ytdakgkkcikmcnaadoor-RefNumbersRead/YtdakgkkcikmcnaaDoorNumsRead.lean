/-
  The walk of RefNumbersRead: whatever it is given, it answers true, and leaves what was there as it was.
-/
import Derived.Test.YtdakgkkcikmcnaaDoorTells
import Derived.Test.YtdakgkkcikmcnaaDoorPlain
import Derived.Test.YtdakgkkcikmcnaaDoorWrote
namespace Go.Proofs.YtdakgkkcikmcnaaDoor
open Go.RowKit Utf
set_option linter.unusedVariables false

/-- How long a text is. -/
def tlen : Value → Nat
  | .string s => s.size
  | _ => 0

theorem no_list {s : ByteArray} (h : s.size = 0) : s.toList.isEmpty = true := by
  rw [Lib.toList_data]
  have : s.data.toList.length = 0 := by
    have : s.data.toList.length = s.size := by simp
    omega
  rw [List.eq_nil_of_length_eq_zero this]
  rfl

theorem rA_zero {s : ByteArray} (h : st s 0 HSH = true) (attr : Bool) : rAT s 0 attr = rT s 0 attr ∧ rAE s 0 = (rE s 0 : Int) := by
  have h1 := st_le h
  rw [show HSH.size = 2 from rfl] at h1
  have h2 := st_at h 0 (by decide)
  rw [Nat.add_zero, show bt HSH 0 = 38 by decide] at h2
  exact rA_yes (p := 0) (by omega) h2 attr

theorem back_a {D M : ByteArray} {n : Nat} (h : Wr D 10 n 0) (h0 : 0 < D.size) (attr : Bool) : rAT (⟨#[38, 35]⟩ ++ D ++ ⟨#[59]⟩ ++ M) 0 attr = num n ∧ rAE (⟨#[38, 35]⟩ ++ D ++ ⟨#[59]⟩ ++ M) 0 = (D.size : Int) + 3 := by
  have hr : bt (⟨#[59]⟩ ++ M) 0 = 59 := by rw [bt_left _ _ (by decide)]; decide
  obtain ⟨g1, g2⟩ := read_tens (R := ⟨#[59]⟩ ++ M) h h0 (by rw [cat_size]; show 0 < 1 + _; omega) (by rw [hr]; decide) attr
  obtain ⟨e1, e2⟩ := rA_zero (s := ⟨#[38, 35]⟩ ++ D ++ (⟨#[59]⟩ ++ M)) (by rw [cat_assoc]; exact hash_of (by decide) (by decide) (by decide)) attr
  rw [cat_assoc (⟨#[38, 35]⟩ ++ D), e1, e2, g1, g2, if_pos hr]
  exact ⟨rfl, by push_cast; rfl⟩

theorem back_b {D M : ByteArray} {n : Nat} (h : Wr D 10 n 0) (h0 : 0 < D.size) (hM : 0 < M.size) (hb : bt M 0 = 33) (attr : Bool) : rAT (⟨#[38, 35]⟩ ++ D ++ M) 0 attr = num n ∧ rAE (⟨#[38, 35]⟩ ++ D ++ M) 0 = (D.size : Int) + 2 := by
  obtain ⟨g1, g2⟩ := read_tens (R := M) h h0 hM (by rw [hb]; decide) attr
  obtain ⟨e1, e2⟩ := rA_zero (s := ⟨#[38, 35]⟩ ++ D ++ M) (by rw [cat_assoc]; exact hash_of (by decide) (by decide) (by decide)) attr
  rw [e1, e2, g1, g2, if_neg (by rw [hb]; decide)]
  exact ⟨rfl, by push_cast; rfl⟩

theorem back_c {E M : ByteArray} {n : Nat} (h : Wr E 16 n 0) (h0 : 0 < E.size) (attr : Bool) : rAT (⟨#[38, 35, 120]⟩ ++ E ++ ⟨#[59]⟩ ++ M) 0 attr = num n ∧ rAE (⟨#[38, 35, 120]⟩ ++ E ++ ⟨#[59]⟩ ++ M) 0 = (E.size : Int) + 4 := by
  have hr : bt (⟨#[59]⟩ ++ M) 0 = 59 := by rw [bt_left _ _ (by decide)]; decide
  obtain ⟨g1, g2⟩ := read_sixteens (P := ⟨#[38, 35, 120]⟩) (z := 0) (R := ⟨#[59]⟩ ++ M) rfl (by decide) (by decide) (by decide) (fun j hj => by omega) rfl h h0 (by rw [cat_size]; show 0 < 1 + _; omega) (by rw [hr]; decide) attr
  obtain ⟨e1, e2⟩ := rA_zero (s := ⟨#[38, 35, 120]⟩ ++ E ++ (⟨#[59]⟩ ++ M)) (by rw [cat_assoc]; exact hash_of (by decide) (by decide) (by decide)) attr
  rw [cat_assoc (⟨#[38, 35, 120]⟩ ++ E), e1, e2, g1, g2, if_pos hr]
  exact ⟨rfl, by push_cast; omega⟩

theorem back_d {E M : ByteArray} {n : Nat} (h : Wr E 16 n 0) (h0 : 0 < E.size) (hM : 0 < M.size) (hb : bt M 0 = 33) (attr : Bool) : rAT (⟨#[38, 35, 88, 48, 48]⟩ ++ E ++ M) 0 attr = num n ∧ rAE (⟨#[38, 35, 88, 48, 48]⟩ ++ E ++ M) 0 = (E.size : Int) + 5 := by
  obtain ⟨g1, g2⟩ := read_sixteens (P := ⟨#[38, 35, 88, 48, 48]⟩) (z := 2) (R := M) rfl (by decide) (by decide) (by decide) (fun j hj => by
    rcases (show j = 0 ∨ j = 1 by omega) with rfl | rfl <;> decide) (by decide) h h0 hM (by rw [hb]; decide) attr
  obtain ⟨e1, e2⟩ := rA_zero (s := ⟨#[38, 35, 88, 48, 48]⟩ ++ E ++ M) (by rw [cat_assoc]; exact hash_of (by decide) (by decide) (by decide)) attr
  rw [e1, e2, g1, g2, if_neg (by rw [hb]; decide)]
  exact ⟨rfl, by push_cast; omega⟩

set_option maxRecDepth 100000 in
set_option maxHeartbeats 1000000 in
theorem read_back_any (w : World) (hn : Nm w) (hi : In w) (n0 : Int) (m0 : ByteArray) (attr : Bool) : Calls Tryd.prog 6 #[.int .i64 n0, .string m0, .bool attr] w fun e w' => e = .returned (.bool true) ∧ Kp [] w w' := by
  have hw := wi_le n0 1114112
  have HW := within_zero w n0 1114112 (by omega)
  generalize wi n0 1114112 = n at hw HW
  have hsz := cut_size m0 10
  have HC := fun W => cut_any W m0 10 (by omega)
  generalize (if 10 < m0.size then m0.extract 0 10 else m0) = m at hsz HC
  go_enter Tryd.func6, Tryd.ntmps6
  go_wp2_with fail
  refine HW.mono ?_
  rintro e w' ⟨rfl, rfl⟩
  clear HW
  go_wp2
  go_loop [7, 9] (fun t i => ∃ (k : Nat) (D : ByteArray), t = .string D ∧ i = .int .i64 (k : Int) ∧ k ≤ 1114112 ∧ D.size ≤ 7 ∧ Hid (Wr D 10 n k)) (fun t i => (intOf i).toNat + (1 - tlen t))
  case atStart => exact ⟨n, _, rfl, rfl, hw, by decide, wr_new 10 n⟩
  case round =>
    obtain ⟨k, D, rfl, rfl, hk, hD, hWr⟩ := hrel
    have i7 : ∀ i, ¬ 9223372036854775807 < (Utf8.encode i).size + D.size := fun i => by have := encode_size_le i; omega
    have hWr2 : Hid (Wr (Utf8.encode (48 + ((k % 10 : Nat) : Int)) ++ D) 10 n (k / 10)) := wr_ten hWr.out
    have hz : (Utf8.encode (48 + ((k % 10 : Nat) : Int)) ++ D).size = 1 + D.size := by rw [cat_size, (ten_one k).1]
    push_cast at hWr2 hz
    by_cases hk0 : 0 < k
    · have hD2 := wr_few10 hWr.out hw hk0
      have hk1 : (0 : Int) < k := by omega
      clear hWr
      go_wp2
      go_round
      case rel => exact ⟨k / 10, _, rfl, by go_num, by omega, by omega, hWr2⟩
      case measure => simp [intOf, tlen]; omega
    · by_cases hD0 : D.size = 0
      · obtain rfl : k = 0 := by omega
        obtain rfl : D = ⟨#[]⟩ := bt_ext hD0 (fun j hj => absurd hj (by rw [hD0]; omega))
        have i8 : ∀ i, ¬ 9223372036854775807 < (Utf8.encode i).size := fun i => by have := encode_size_le i; omega
        have hq : Hid (Wr (Utf8.encode 48 ++ ⟨#[]⟩) 10 n 0) := hWr2.out
        clear hWr hk0 hD0 i7 hz hWr2
        go_wp2
        exact ⟨⟨0, _, rfl, rfl, by omega, by decide +kernel, hq⟩, by decide +kernel⟩
      · obtain rfl : k = 0 := by omega
        have he := some_list (s := D) (by omega)
        have hD0' : 0 < D.size := by omega
        have hW1 := hWr
        clear hWr hWr2 hz hk0 hD0 i7
        go_wp2
        go_loop [8, 10] (fun t i => ∃ (k : Nat) (E : ByteArray), t = .string E ∧ i = .int .i64 (k : Int) ∧ k ≤ 1114112 ∧ E.size ≤ 7 ∧ Hid (Wr E 16 n k)) (fun t i => (intOf i).toNat + (1 - tlen t))
        case atStart => exact ⟨n, _, rfl, rfl, hw, by decide, wr_new 16 n⟩
        case round =>
          obtain ⟨k, E, rfl, rfl, hk, hE, hWr⟩ := hrel
          have hWr2 : Hid (Wr (SIXT.extract (k % 16) (k % 16 + 1) ++ E) 16 n (k / 16)) := wr_sixt hWr.out
          have hz : (SIXT.extract (k % 16) (k % 16 + 1) ++ E).size = 1 + E.size := by rw [cat_size, (sixt_one (Nat.mod_lt _ (by omega))).1]
          have hz1 : (SIXT.extract (k % 16) (k % 16 + 1)).size = 1 := (sixt_one (Nat.mod_lt _ (by omega))).1
          have hm16 : k % 16 < 16 := Nat.mod_lt _ (by omega)
          unfold SIXT at hz1 hz hWr2
          have i7 : ¬ 9223372036854775807 < (ByteArray.extract ⟨#[48, 49, 50, 51, 52, 53, 54, 55, 56, 57, 97, 98, 99, 100, 101, 102]⟩ (k % 16) (k % 16 + 1)).size + E.size := by omega
          by_cases hk0 : 0 < k
          · have hE2 := wr_few16 hWr.out hw hk0
            have hk1 : (0 : Int) < k := by omega
            clear hWr
            go_wp2
            go_round
            case rel => exact ⟨k / 16, _, rfl, by go_num, by omega, by omega, hWr2⟩
            case measure => simp [intOf, tlen]; omega
          · by_cases hE0 : E.size = 0
            · obtain rfl : k = 0 := by omega
              obtain rfl : E = ⟨#[]⟩ := bt_ext hE0 (fun j hj => absurd hj (by rw [hE0]; omega))
              have hq : Hid (Wr (⟨#[48]⟩ ++ ⟨#[]⟩) 16 n 0) := hWr2.out
              clear hWr hk0 hE0 i7 hz hz1 hWr2 hm16
              go_wp2
              exact ⟨⟨0, _, rfl, rfl, by omega, by decide +kernel, hq⟩, by decide +kernel⟩
            · obtain rfl : k = 0 := by omega
              have he2 := some_list (s := E) (by omega)
              have hE0' : 0 < E.size := by omega
              obtain ⟨M, hM⟩ : ∃ M, M = ⟨#[33]⟩ ++ m := ⟨_, rfl⟩
              have hM1 : M.size = 1 + m.size := by rw [hM, cat_size]; rfl
              have hM2 : bt M 0 = 33 := by rw [hM, bt_left _ _ (by decide)]; decide
              have A1 := back_a (M := M) hW1.out hD0' attr
              have A2 := back_b (M := M) hW1.out hD0' (by omega) hM2 attr
              have A3 := back_c (M := M) hWr.out hE0' attr
              have A4 := back_d (M := M) hWr.out hE0' (by omega) hM2 attr
              have y1 : (⟨#[38, 35]⟩ ++ D : ByteArray).size = 2 + D.size := by rw [cat_size]; rfl
              have y2 : (⟨#[38, 35]⟩ ++ D ++ ⟨#[59]⟩ : ByteArray).size = 3 + D.size := by rw [cat_size, y1]; show 2 + _ + 1 = _; omega
              have y3 : (⟨#[38, 35, 120]⟩ ++ E : ByteArray).size = 3 + E.size := by rw [cat_size]; rfl
              have y4 : (⟨#[38, 35, 120]⟩ ++ E ++ ⟨#[59]⟩ : ByteArray).size = 4 + E.size := by rw [cat_size, y3]; show 3 + _ + 1 = _; omega
              have y5 : (⟨#[38, 35, 88, 48, 48]⟩ ++ E : ByteArray).size = 5 + E.size := by rw [cat_size]; rfl
              have R1 := fun W (kk : Kp [] w' W) => read_any W (hn.kept kk) (hi.kept kk) (⟨#[38, 35]⟩ ++ D ++ ⟨#[59]⟩ ++ M) 0 attr (by rw [cat_size]; omega)
              have R2 := fun W (kk : Kp [] w' W) => read_any W (hn.kept kk) (hi.kept kk) (⟨#[38, 35]⟩ ++ D ++ M) 0 attr (by rw [cat_size]; omega)
              have R3 := fun W (kk : Kp [] w' W) => read_any W (hn.kept kk) (hi.kept kk) (⟨#[38, 35, 120]⟩ ++ E ++ ⟨#[59]⟩ ++ M) 0 attr (by rw [cat_size]; omega)
              have R4 := fun W (kk : Kp [] w' W) => read_any W (hn.kept kk) (hi.kept kk) (⟨#[38, 35, 88, 48, 48]⟩ ++ E ++ M) 0 attr (by rw [cat_size]; omega)
              have R5 := fun W (kk : Kp [] w' W) => known_any W (hn.kept kk) (hi.kept kk)
              rw [A1.1, A1.2] at R1
              rw [A2.1, A2.2] at R2
              rw [A3.1, A3.2] at R3
              rw [A4.1, A4.2] at R4
              have RR := fun W => to_runes W (rune_good (n : Int))
              rw [show Utf8.encode (rune (n : Int)) = num (n : Int) from rfl] at RR
              generalize num (n : Int) = T at R1 R2 R3 R4 RR
              clear A1 A2 A3 A4 hWr hWr2 hz hz1 hm16 i7 hk0 hE0 hW1 hM2 hn hi
              have j0 : ¬ 9223372036854775807 < 1 + m.size := by omega
              go_wp2_with fail
              refine (HC _).mono ?_
              rintro e w1 ⟨rfl, rfl⟩
              clear HC
              go_upto_region 12 with fail
              rw [← hM]
              clear hM j0 he he2
              go_wp2_with fail
              refine (R1 _ (Kp.refl _ _)).mono ?_
              rintro e w2 ⟨rfl, k2⟩
              clear R1
              go_wp2_with fail
              refine (from_back (R2 _ k2) k2).mono ?_
              rintro e w3 ⟨rfl, k3⟩
              clear R2 k2
              go_wp2_with fail
              refine (from_back (R3 _ k3) k3).mono ?_
              rintro e w4 ⟨rfl, k4⟩
              clear R3 k3
              go_wp2_with fail
              refine (from_back (R4 _ k4) k4).mono ?_
              rintro e w5 ⟨rfl, k5⟩
              clear R4 k4
              obtain ⟨cp, w6, hcv, k6, _, _⟩ := RR w5
              have k7 := k5.trans k6 (fun x hx => by simp at hx)
              clear RR k5 k6
              go_wp2_with fail
              refine (from_back (R5 _ k7) k7).mono ?_
              rintro e w8 ⟨rfl, k8⟩
              clear R5 k7
              go_wp2
              go_ret
              exact ⟨rfl, k8⟩

end Go.Proofs.YtdakgkkcikmcnaaDoor
