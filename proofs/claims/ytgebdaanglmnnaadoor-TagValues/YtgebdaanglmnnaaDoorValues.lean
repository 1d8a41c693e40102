/-
  The walk of TagValues: whatever it is given, it answers true, and leaves what was there as it was.
-/
import Derived.Test.YtgebdaanglmnnaaDoorValue
namespace Go.Proofs.YtgebdaanglmnnaaDoor
open Go.RowKit Utf
set_option linter.unusedVariables false

set_option maxRecDepth 100000 in
set_option maxHeartbeats 4000000 in
theorem values_false (w : World) (hn : Nm w) (hi : In w) (s : ByteArray) : Calls Tryd.prog 7 #[.string s, .bool false] w fun e w' => e = .returned (.bool true) ∧ Kp [] w w' := by
  have HC := fun W => cut_any W s 30 (by omega)
  have hh := cut_size s 30
  have hle : (if 30 < s.size then s.extract 0 30 else s).size ≤ s.size := by
    split
    · exact cut_le s 0 30
    · exact Nat.le_refl _
  generalize (if 30 < s.size then s.extract 0 30 else s) = hd at HC hh hle
  obtain ⟨n, hnn⟩ : ∃ n, hd.size = n := ⟨_, rfl⟩
  rw [hnn] at hh hle
  go_enter Tryd.func7, Tryd.ntmps7
  go_wp2
  go_loopw [5, 6, 7] (fun v x i wr => ∃ (k : Nat) (vv wv : ByteArray), i = .int .i64 (k : Int) ∧ v = .string vv ∧ x = .string wv ∧ k ≤ n ∧ Hid (wv = w3 s k) ∧ Hid (vv = s.extract 0 k) ∧ Kp [] w wr) (fun _ _ i _ => n - (intOf i).toNat)
  case atStart => exact ⟨0, _, _, rfl, rfl, rfl, Nat.zero_le _, rfl, (cut_none s 0).symm, Kp.refl _ _⟩
  case round =>
    obtain ⟨k, vv, wv, rfl, rfl, rfl, hk, hwv, hvv, kr⟩ := hrel
    by_cases hlt : k < n
    · have i1 := index_at s (k : Int) k rfl (by omega)
      obtain ⟨r1, r2⟩ := bt_range s k
      have z1 : (s.extract k (k + 1)).size = 1 := one_size (by omega)
      have hv2 : Hid (vv ++ s.extract k (k + 1) = s.extract 0 (k + 1)) := by
        show _ = _
        rw [hvv.out, cut_cut s (by omega) (by omega) (by omega)]
      have zv : vv.size ≤ 30 := by rw [hvv.out, ByteArray.size_extract]; omega
      have zw : wv.size ≤ 180 := by have := w3_size (s := s) k (by omega); rw [hwv.out]; omega
      have hw2 : Hid (wv ++ wr3 s k = w3 s (k + 1)) := by
        show _ = _
        rw [hwv.out]
        rfl
      unfold wr3 at hw2
      have i7 : ¬ 9223372036854775807 < vv.size + (s.extract k (k + 1)).size := by omega
      generalize bt s k = z at i1 r1 r2 hw2
      clear hwv hvv
      by_cases q1 : z = 38
      · rw [if_pos q1] at hw2
        subst q1
        have i8 : ¬ 9223372036854775807 < wv.size + 5 := by omega
        go_wp2_with fail
        refine (HC _).mono ?_
        rintro e1 w1 ⟨rfl, rfl⟩
        clear HC
        go_wp2
        go_roundw
        case rel => exact ⟨k + 1, _, _, by go_num, rfl, rfl, by omega, hw2, hv2, kr⟩
        case measure => simp [intOf]; omega
      rw [if_neg q1] at hw2
      have b1 : (z == 38) = false := by simpa using q1
      by_cases q2 : z = 34
      · rw [if_pos q2] at hw2
        subst q2
        clear q1 b1
        have i8 : ¬ 9223372036854775807 < wv.size + 6 := by omega
        go_wp2_with fail
        refine (HC _).mono ?_
        rintro e1 w1 ⟨rfl, rfl⟩
        clear HC
        go_wp2
        go_roundw
        case rel => exact ⟨k + 1, _, _, by go_num, rfl, rfl, by omega, hw2, hv2, kr⟩
        case measure => simp [intOf]; omega
      rw [if_neg q2] at hw2
      have b2 : (z == 34) = false := by simpa using q2
      by_cases q3 : z = 39
      · rw [if_pos q3] at hw2
        subst q3
        clear q1 b1 q2 b2
        have i8 : ¬ 9223372036854775807 < wv.size + 5 := by omega
        go_wp2_with fail
        refine (HC _).mono ?_
        rintro e1 w1 ⟨rfl, rfl⟩
        clear HC
        go_wp2
        go_roundw
        case rel => exact ⟨k + 1, _, _, by go_num, rfl, rfl, by omega, hw2, hv2, kr⟩
        case measure => simp [intOf]; omega
      rw [if_neg q3] at hw2
      have b3 : (z == 39) = false := by simpa using q3
      have i8 : ¬ 9223372036854775807 < wv.size + (s.extract k (k + 1)).size := by omega
      clear q1 q2 q3
      go_wp2_with fail
      refine (HC _).mono ?_
      rintro e1 w1 ⟨rfl, rfl⟩
      clear HC
      go_wp2
      go_roundw
      case rel => exact ⟨k + 1, _, _, by go_num, rfl, rfl, by omega, hw2, hv2, kr⟩
      case measure => simp [intOf]; omega
    · obtain rfl : k = n := by omega
      have zw : wv.size ≤ 180 := by have := w3_size (s := s) k (by omega); rw [hwv.out]; omega
      have A := asked_of wv 34 (by decide)
      have AT := A.tag (v := vv) (by rw [hwv.out]; exact w3_none k (by omega)) (by rw [hwv.out, hvv.out]; exact w3_back (by omega))
      have AZ := A.size
      have H1 := fun W (kk : Kp [] w W) => tread_any W (hn.kept kk) (hi.kept kk) (PRE ++ ⟨#[34]⟩ ++ wv ++ ⟨#[34]⟩ ++ POST) 0 (by omega)
      rw [AT] at H1
      have S6 := fun W (kk : Kp [] w W) => known_any W (hn.kept kk) (hi.kept kk)
      rw [AZ] at H1
      unfold rdv tv at H1
      simp only [] at H1
      unfold PRE POST at H1 AZ
      have e1 : (⟨#[60, 97, 32, 105, 100, 61]⟩ ++ ⟨#[34]⟩ : ByteArray).size = 7 := by rw [cat_size]; rfl
      have e2 : (⟨#[60, 97, 32, 105, 100, 61]⟩ ++ ⟨#[34]⟩ ++ wv : ByteArray).size = 7 + wv.size := by rw [cat_size, e1]
      have e3 : (⟨#[60, 97, 32, 105, 100, 61]⟩ ++ ⟨#[34]⟩ ++ wv ++ ⟨#[34]⟩ : ByteArray).size = 7 + wv.size + 1 := by rw [cat_size, e2]; rfl
      have i7 : ¬ 9223372036854775807 < 7 + wv.size := by omega
      have i8 : ¬ 9223372036854775807 < 7 + wv.size + 1 := by omega
      have i9 : ¬ 9223372036854775807 < 7 + wv.size + 1 + 14 := by omega
      clear A AT hwv hvv hn hi
      go_wp2_with fail
      refine (HC _).mono ?_
      rintro e0 w1 ⟨rfl, rfl⟩
      clear HC
      go_wp2_with fail
      refine (H1 _ kr).mono ?_
      rintro e0 w2 ⟨bo, m, d, rfl, M1⟩
      clear H1 e1 e2 e3
      obtain rfl : m = 2 := M1.len
      have k2 := (kr.trans M1.kp (fun z hz => by simp at hz)).alloc (.cells #[.int .i64 2, .string ⟨#[97]⟩, .slice bo 2 d, .bool false, .string ⟨#[]⟩] 37)
      have M2 := M1.kept ((Kp.refl [] w2).alloc (.cells #[.int .i64 2, .string ⟨#[97]⟩, .slice bo 2 d, .bool false, .string ⟨#[]⟩] 37))
      obtain ⟨b1, o1, e4, c1, c2⟩ := M2.rp.get 0 (by simp)
      obtain ⟨b3, o3, e5, c3, c4⟩ := M2.rp.get 1 (by simp)
      obtain ⟨rfl, rfl⟩ : b1 = b3 ∧ o1 = o3 := by rw [e4] at e5; simpa using e5
      subst e4
      clear e5 M1 M2
      simp only [List.getElem_cons_zero, List.getElem_cons_succ, Nat.zero_mul, Nat.add_zero, Nat.one_mul] at c1 c2 c3 c4
      have c5 := c4
      rw [show o1 + 2 + 1 = o1 + 3 by omega] at c5
      have A2 := At.new w2 #[.int .i64 2, .string ⟨#[97]⟩, .slice (some ⟨b1, o1, none⟩) 2 d, .bool false, .string ⟨#[]⟩] 37
      obtain ⟨x0, x1, x2, x3, x4⟩ := A2.cells5
      clear A2
      go_wp2_with fail
      generalize w2.alloc (.cells #[.int .i64 2, .string ⟨#[97]⟩, .slice (some ⟨b1, o1, none⟩) 2 d, .bool false, .string ⟨#[]⟩] 37) = W at *
      refine (from_back (S6 _ k2) k2).mono ?_
      rintro e0 w5 ⟨rfl, k5⟩
      clear S6 k2 x0 x1 x2 x3 x4 c1 c2 c3 c4 c5
      go_wp2
      go_ret
      exact ⟨rfl, k5⟩

set_option maxRecDepth 100000 in
set_option maxHeartbeats 4000000 in
theorem values_true (w : World) (hn : Nm w) (hi : In w) (s : ByteArray) : Calls Tryd.prog 7 #[.string s, .bool true] w fun e w' => e = .returned (.bool true) ∧ Kp [] w w' := by
  have HC := fun W => cut_any W s 30 (by omega)
  have hh := cut_size s 30
  have hle : (if 30 < s.size then s.extract 0 30 else s).size ≤ s.size := by
    split
    · exact cut_le s 0 30
    · exact Nat.le_refl _
  generalize (if 30 < s.size then s.extract 0 30 else s) = hd at HC hh hle
  obtain ⟨n, hnn⟩ : ∃ n, hd.size = n := ⟨_, rfl⟩
  rw [hnn] at hh hle
  go_enter Tryd.func7, Tryd.ntmps7
  go_wp2
  go_loopw [5, 6, 7] (fun v x i wr => ∃ (k : Nat) (vv wv : ByteArray), i = .int .i64 (k : Int) ∧ v = .string vv ∧ x = .string wv ∧ k ≤ n ∧ Hid (wv = w3 s k) ∧ Hid (vv = s.extract 0 k) ∧ Kp [] w wr) (fun _ _ i _ => n - (intOf i).toNat)
  case atStart => exact ⟨0, _, _, rfl, rfl, rfl, Nat.zero_le _, rfl, (cut_none s 0).symm, Kp.refl _ _⟩
  case round =>
    obtain ⟨k, vv, wv, rfl, rfl, rfl, hk, hwv, hvv, kr⟩ := hrel
    by_cases hlt : k < n
    · have i1 := index_at s (k : Int) k rfl (by omega)
      obtain ⟨r1, r2⟩ := bt_range s k
      have z1 : (s.extract k (k + 1)).size = 1 := one_size (by omega)
      have hv2 : Hid (vv ++ s.extract k (k + 1) = s.extract 0 (k + 1)) := by
        show _ = _
        rw [hvv.out, cut_cut s (by omega) (by omega) (by omega)]
      have zv : vv.size ≤ 30 := by rw [hvv.out, ByteArray.size_extract]; omega
      have zw : wv.size ≤ 180 := by have := w3_size (s := s) k (by omega); rw [hwv.out]; omega
      have hw2 : Hid (wv ++ wr3 s k = w3 s (k + 1)) := by
        show _ = _
        rw [hwv.out]
        rfl
      unfold wr3 at hw2
      have i7 : ¬ 9223372036854775807 < vv.size + (s.extract k (k + 1)).size := by omega
      generalize bt s k = z at i1 r1 r2 hw2
      clear hwv hvv
      by_cases q1 : z = 38
      · rw [if_pos q1] at hw2
        subst q1
        have i8 : ¬ 9223372036854775807 < wv.size + 5 := by omega
        go_wp2_with fail
        refine (HC _).mono ?_
        rintro e1 w1 ⟨rfl, rfl⟩
        clear HC
        go_wp2
        go_roundw
        case rel => exact ⟨k + 1, _, _, by go_num, rfl, rfl, by omega, hw2, hv2, kr⟩
        case measure => simp [intOf]; omega
      rw [if_neg q1] at hw2
      have b1 : (z == 38) = false := by simpa using q1
      by_cases q2 : z = 34
      · rw [if_pos q2] at hw2
        subst q2
        clear q1 b1
        have i8 : ¬ 9223372036854775807 < wv.size + 6 := by omega
        go_wp2_with fail
        refine (HC _).mono ?_
        rintro e1 w1 ⟨rfl, rfl⟩
        clear HC
        go_wp2
        go_roundw
        case rel => exact ⟨k + 1, _, _, by go_num, rfl, rfl, by omega, hw2, hv2, kr⟩
        case measure => simp [intOf]; omega
      rw [if_neg q2] at hw2
      have b2 : (z == 34) = false := by simpa using q2
      by_cases q3 : z = 39
      · rw [if_pos q3] at hw2
        subst q3
        clear q1 b1 q2 b2
        have i8 : ¬ 9223372036854775807 < wv.size + 5 := by omega
        go_wp2_with fail
        refine (HC _).mono ?_
        rintro e1 w1 ⟨rfl, rfl⟩
        clear HC
        go_wp2
        go_roundw
        case rel => exact ⟨k + 1, _, _, by go_num, rfl, rfl, by omega, hw2, hv2, kr⟩
        case measure => simp [intOf]; omega
      rw [if_neg q3] at hw2
      have b3 : (z == 39) = false := by simpa using q3
      have i8 : ¬ 9223372036854775807 < wv.size + (s.extract k (k + 1)).size := by omega
      clear q1 q2 q3
      go_wp2_with fail
      refine (HC _).mono ?_
      rintro e1 w1 ⟨rfl, rfl⟩
      clear HC
      go_wp2
      go_roundw
      case rel => exact ⟨k + 1, _, _, by go_num, rfl, rfl, by omega, hw2, hv2, kr⟩
      case measure => simp [intOf]; omega
    · obtain rfl : k = n := by omega
      have zw : wv.size ≤ 180 := by have := w3_size (s := s) k (by omega); rw [hwv.out]; omega
      have A := asked_of wv 39 (by decide)
      have AT := A.tag (v := vv) (by rw [hwv.out]; exact w3_none k (by omega)) (by rw [hwv.out, hvv.out]; exact w3_back (by omega))
      have AZ := A.size
      have H1 := fun W (kk : Kp [] w W) => tread_any W (hn.kept kk) (hi.kept kk) (PRE ++ ⟨#[39]⟩ ++ wv ++ ⟨#[39]⟩ ++ POST) 0 (by omega)
      rw [AT] at H1
      have S6 := fun W (kk : Kp [] w W) => known_any W (hn.kept kk) (hi.kept kk)
      rw [AZ] at H1
      unfold rdv tv at H1
      simp only [] at H1
      unfold PRE POST at H1 AZ
      have e1 : (⟨#[60, 97, 32, 105, 100, 61]⟩ ++ ⟨#[39]⟩ : ByteArray).size = 7 := by rw [cat_size]; rfl
      have e2 : (⟨#[60, 97, 32, 105, 100, 61]⟩ ++ ⟨#[39]⟩ ++ wv : ByteArray).size = 7 + wv.size := by rw [cat_size, e1]
      have e3 : (⟨#[60, 97, 32, 105, 100, 61]⟩ ++ ⟨#[39]⟩ ++ wv ++ ⟨#[39]⟩ : ByteArray).size = 7 + wv.size + 1 := by rw [cat_size, e2]; rfl
      have i7 : ¬ 9223372036854775807 < 7 + wv.size := by omega
      have i8 : ¬ 9223372036854775807 < 7 + wv.size + 1 := by omega
      have i9 : ¬ 9223372036854775807 < 7 + wv.size + 1 + 14 := by omega
      clear A AT hwv hvv hn hi
      go_wp2_with fail
      refine (HC _).mono ?_
      rintro e0 w1 ⟨rfl, rfl⟩
      clear HC
      go_wp2_with fail
      refine (H1 _ kr).mono ?_
      rintro e0 w2 ⟨bo, m, d, rfl, M1⟩
      clear H1 e1 e2 e3
      obtain rfl : m = 2 := M1.len
      have k2 := (kr.trans M1.kp (fun z hz => by simp at hz)).alloc (.cells #[.int .i64 2, .string ⟨#[97]⟩, .slice bo 2 d, .bool false, .string ⟨#[]⟩] 37)
      have M2 := M1.kept ((Kp.refl [] w2).alloc (.cells #[.int .i64 2, .string ⟨#[97]⟩, .slice bo 2 d, .bool false, .string ⟨#[]⟩] 37))
      obtain ⟨b1, o1, e4, c1, c2⟩ := M2.rp.get 0 (by simp)
      obtain ⟨b3, o3, e5, c3, c4⟩ := M2.rp.get 1 (by simp)
      obtain ⟨rfl, rfl⟩ : b1 = b3 ∧ o1 = o3 := by rw [e4] at e5; simpa using e5
      subst e4
      clear e5 M1 M2
      simp only [List.getElem_cons_zero, List.getElem_cons_succ, Nat.zero_mul, Nat.add_zero, Nat.one_mul] at c1 c2 c3 c4
      have c5 := c4
      rw [show o1 + 2 + 1 = o1 + 3 by omega] at c5
      have A2 := At.new w2 #[.int .i64 2, .string ⟨#[97]⟩, .slice (some ⟨b1, o1, none⟩) 2 d, .bool false, .string ⟨#[]⟩] 37
      obtain ⟨x0, x1, x2, x3, x4⟩ := A2.cells5
      clear A2
      go_wp2_with fail
      generalize w2.alloc (.cells #[.int .i64 2, .string ⟨#[97]⟩, .slice (some ⟨b1, o1, none⟩) 2 d, .bool false, .string ⟨#[]⟩] 37) = W at *
      refine (from_back (S6 _ k2) k2).mono ?_
      rintro e0 w5 ⟨rfl, k5⟩
      clear S6 k2 x0 x1 x2 x3 x4 c1 c2 c3 c4 c5
      go_wp2
      go_ret
      exact ⟨rfl, k5⟩

theorem values_any (w : World) (hn : Nm w) (hi : In w) (s : ByteArray) (b : Bool) : Calls Tryd.prog 7 #[.string s, .bool b] w fun e w' => e = .returned (.bool true) ∧ Kp [] w w' := by
  cases b with
  | false => exact values_false w hn hi s
  | true => exact values_true w hn hi s

end Go.Proofs.YtgebdaanglmnnaaDoor
