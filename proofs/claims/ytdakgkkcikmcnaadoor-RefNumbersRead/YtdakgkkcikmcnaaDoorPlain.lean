/-
  The walk of RefPlain: whatever it is given, it answers true, and leaves what was there as it was.
-/
import Derived.Test.YtdakgkkcikmcnaaDoorAgree
import Derived.Test.YtdakgkkcikmcnaaDoorBare
namespace Go.Proofs.YtdakgkkcikmcnaaDoor
open Go.RowKit Utf
set_option linter.unusedVariables false

theorem some_list {s : ByteArray} (h : 0 < s.size) : s.toList.isEmpty = false := by
  cases he : s.toList with
  | nil =>
    rw [ByteArray.toList_eq] at he
    have := congrArg List.length he
    have h2 : s.data.size = s.size := rfl
    simp at this
    rw [this] at h
    exact absurd h (by decide)
  | cons a l => rfl

theorem bare_yes {s : ByteArray} {k : Nat} (h : bt s k = 38) : bareF s (k + 1) = bareF s k := by rw [bareF, if_pos h]
theorem bare_no {s : ByteArray} {k : Nat} (h : ¬ bt s k = 38) : bareF s (k + 1) = bareF s k ++ s.extract k (k + 1) := by rw [bareF, if_neg h]
theorem writ_yes {s : ByteArray} {k : Nat} (h : bt s k = 38) : writF s (k + 1) = writF s k ++ AMPS := by rw [writF, if_pos h]
theorem writ_no {s : ByteArray} {k : Nat} (h : ¬ bt s k = 38) : writF s (k + 1) = writF s k ++ s.extract k (k + 1) := by rw [writF, if_neg h]

set_option maxRecDepth 100000 in
set_option maxHeartbeats 1000000 in
theorem plain_any (w : World) (hn : Nm w) (hi : In w) (s0 : ByteArray) (attr : Bool) : Calls Tryd.prog 5 #[.string s0, .bool attr] w fun e w' => e = .returned (.bool true) ∧ Kp [] w w' := by
  have hsz := cut_size s0 100
  go_enter Tryd.func5, Tryd.ntmps5
  go_wp2_with fail
  refine (cut_any _ s0 100 (by omega)).mono ?_
  rintro e w' ⟨rfl, rfl⟩
  generalize (if 100 < s0.size then s0.extract 0 100 else s0) = s at hsz ⊢
  go_wp2
  go_loop [5, 6, 7] (fun x y i => ∃ (k : Nat) (A B : ByteArray), k ≤ s.size ∧ x = .string A ∧ y = .string B ∧ i = .int .i64 (k : Int) ∧ Hid (bareF s k = A) ∧ Hid (writF s k = B)) (fun _ _ i => s.size - (intOf i).toNat)
  case atStart => exact ⟨0, _, _, by omega, rfl, rfl, rfl, rfl, rfl⟩
  case round =>
    obtain ⟨k, A, B, hk, rfl, rfl, rfl, hA, hB⟩ := hrel
    by_cases hlt : k < s.size
    · have i1 := index_at s (k : Int) k rfl hlt
      have zA := bare_size (s := s) k hk
      have zB := writ_size (s := s) k hk
      rw [hA.out] at zA
      rw [hB.out] at zB
      obtain ⟨r1, r2⟩ := bt_range s k
      by_cases hb : bt s k = 38
      · have hA2 : Hid (bareF s (k + 1) = A) := (bare_yes hb).trans hA.out
        have hB2 : Hid (writF s (k + 1) = B ++ AMPS) := by
          show _ = _
          rw [writ_yes hb, hB.out]
        rw [hb] at i1
        clear hA hB hb r1 r2
        have i7 : ¬ 9223372036854775807 < B.size + 5 := by omega
        go_wp2
        go_round
        case rel => exact ⟨k + 1, A, B ++ AMPS, by omega, rfl, rfl, by go_num, hA2, hB2⟩
        case measure => simp [intOf]; omega
      · have hA2 : Hid (bareF s (k + 1) = A ++ s.extract k (k + 1)) := by
          show _ = _
          rw [bare_no hb, hA.out]
        have hB2 : Hid (writF s (k + 1) = B ++ s.extract k (k + 1)) := by
          show _ = _
          rw [writ_no hb, hB.out]
        generalize bt s k = x at i1 hb r1 r2
        have hb2 : (x != 38) = true := by simpa using hb
        have h1 := one_size hlt
        clear hA hB hb
        have i7 : ¬ 9223372036854775807 < B.size + (s.extract k (k + 1)).size := by omega
        have i8 : ¬ 9223372036854775807 < A.size + (s.extract k (k + 1)).size := by omega
        go_wp2
        go_round
        case rel => exact ⟨k + 1, _, _, by omega, rfl, rfl, by go_num, hA2, hB2⟩
        case measure => simp [intOf]; omega
    · obtain rfl : k = s.size := by omega
      have zA := bare_size (s := s) s.size (Nat.le_refl _)
      have zB := writ_size (s := s) s.size (Nat.le_refl _)
      have HA := all_any w' hn hi (bareF s s.size) attr (by omega)
      have HB := fun W (kk : Kp [] w' W) => all_any W (hn.kept kk) (hi.kept kk) (writF s s.size) attr (by omega)
      rw [all_plain (bare_none _ (Nat.le_refl _))] at HA
      rw [all_back] at HB
      rw [hA.out] at HA
      rw [hB.out] at HB
      have HR := fun W (kk : Kp [] w' W) (p : Nat) => read_any W (hn.kept kk) (hi.kept kk) s (p : Int) attr (by omega)
      have HK := fun W (kk : Kp [] w' W) => known_any W (hn.kept kk) (hi.kept kk)
      clear hA hB zA zB hn hi
      go_wp2_with fail
      refine HA.mono ?_
      rintro e w1 ⟨rfl, k1⟩
      clear HA
      go_wp2_with fail
      refine (from_back (HB _ k1) k1).mono ?_
      rintro e w2 ⟨rfl, k2⟩
      clear HB k1
      go_wp2
      go_loopw [8] (fun i wr => ∃ p : Nat, p ≤ s.size ∧ i = .int .i64 (p : Int) ∧ Kp [] w' wr) (fun i _ => s.size - (intOf i).toNat)
      case atStart => exact ⟨0, by omega, rfl, k2⟩
      case round =>
        obtain ⟨p, hp, rfl, kr⟩ := hrel
        clear k2
        by_cases hlt2 : p < s.size
        · have i1 := index_at s (p : Int) p rfl hlt2
          obtain ⟨r1, r2⟩ := bt_range s p
          by_cases hb : bt s p = 38
          · have HQ := HR _ kr p
            obtain ⟨e1, e2⟩ := rA_yes hlt2 hb attr
            obtain ⟨h3, h4⟩ := rE_gt hlt2
            have h5 := some_list (rT_size hlt2 attr).1
            rw [e1, e2] at HQ
            rw [hb] at i1
            generalize rE s p = r at HQ h3 h4
            generalize rT s p attr = t at HQ h5
            clear e1 e2 hb r1 r2 HR HK
            go_wp2_with fail
            refine (from_back HQ kr).mono ?_
            rintro e w3 ⟨rfl, k3⟩
            clear HQ
            go_wp2
            go_roundw
            case rel => exact ⟨p + 1, by omega, by go_num, k3⟩
            case measure => simp [intOf]; omega
          · generalize bt s p = x at i1 hb r1 r2
            have hb2 : (x == 38) = false := by simpa using hb
            clear hb HR HK
            go_wp2
            go_roundw
            case rel => exact ⟨p + 1, by omega, by go_num, kr⟩
            case measure => simp [intOf]; omega
        · clear HR
          go_wp2_with fail
          refine (from_back (HK _ kr) kr).mono ?_
          rintro e w3 ⟨rfl, k3⟩
          clear HK
          go_wp2
          go_ret
          exact ⟨rfl, k3⟩

end Go.Proofs.YtdakgkkcikmcnaaDoor
