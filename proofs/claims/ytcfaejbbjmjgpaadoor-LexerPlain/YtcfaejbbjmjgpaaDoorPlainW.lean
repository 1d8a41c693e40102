/-
  The walk of LexerPlain: whatever it is given, it answers true, and leaves what was there as it was.
-/
import Derived.Test.YtcfaejbbjmjgpaaDoorKnown
namespace Go.Proofs.YtcfaejbbjmjgpaaDoor
open Go.RowKit Utf
set_option linter.unusedVariables false

theorem w2_lt {s : ByteArray} {k : Nat} (h : bt s k = 60) : w2 s (k + 1) = w2 s k ++ ⟨#[38, 108, 116, 59]⟩ := by
  rw [w2]; unfold wr2; rw [if_pos h]; rfl
theorem w2_amp {s : ByteArray} {k : Nat} (h : bt s k = 38) : w2 s (k + 1) = w2 s k ++ ⟨#[38, 97, 109, 112, 59]⟩ := by
  rw [w2]; unfold wr2; rw [if_neg (by rw [h]; decide), if_pos h]; rfl
theorem w2_other {s : ByteArray} {k : Nat} (h : ¬ bt s k = 60) (h2 : ¬ bt s k = 38) : w2 s (k + 1) = w2 s k ++ s.extract k (k + 1) := by
  rw [w2]; unfold wr2; rw [if_neg h, if_neg h2]

set_option maxHeartbeats 1000000 in
set_option maxRecDepth 100000 in
theorem plain_any (w : World) (hn : Nm w) (hi : In w) (s0 : ByteArray) : Calls Tryd.prog 4 #[.string s0] w fun e w' => e = .returned (.bool true) ∧ Kp [] w w' := by
  have hsz := cut_size s0 100
  have HS := fun W => cut_any W s0 100 (by omega)
  generalize (if 100 < s0.size then s0.extract 0 100 else s0) = s at HS hsz
  have HK := fun W (kk : Kp [] w W) => known_any W (hn.kept kk) (hi.kept kk)
  have HA := fun y (hy : y.size ≤ 4000) => lall_any w hn hi y hy
  clear hn hi
  go_enter Tryd.func4, Tryd.ntmps4
  go_wp2_with fail
  refine (HS _).mono ?_
  rintro e w' ⟨rfl, rfl⟩
  clear HS
  rename World => w
  go_wp2_with fail
  go_loopw [3, 4] (fun y i wr => ∃ k : Nat, k ≤ s.size ∧ i = .int .i64 k ∧ y = .string (w2 s k) ∧ wr = w) (fun _ i _ => s.size - (intOf i).toNat)
  case atStart => exact ⟨0, Nat.zero_le _, rfl, rfl, rfl⟩
  case round =>
    obtain ⟨k, hk, rfl, rfl, rfl⟩ := hrel
    obtain ⟨z1, z2⟩ := w2_size (s := s) k hk
    by_cases hlt : k < s.size
    · have i0 := index_at s (k : Int) k rfl hlt
      by_cases h1 : bt s k = 60
      · have e1 := w2_lt h1
        rw [h1] at i0
        have i7 : ¬ 9223372036854775807 < (w2 s k).size + 4 := by omega
        clear h1 HA HK
        generalize w2 s k = y at e1 i7 z1 z2 ⊢
        go_wp2
        go_roundw
        case rel => exact ⟨k + 1, by omega, by go_num, by rw [e1], by first | rfl | trivial⟩
        case measure => simp [intOf]; omega
      by_cases h2 : bt s k = 38
      · have e1 := w2_amp h2
        rw [h2] at i0
        have i7 : ¬ 9223372036854775807 < (w2 s k).size + 5 := by omega
        clear h1 h2 HA HK
        generalize w2 s k = y at e1 i7 z1 z2 ⊢
        go_wp2
        go_roundw
        case rel => exact ⟨k + 1, by omega, by go_num, by rw [e1], by first | rfl | trivial⟩
        case measure => simp [intOf]; omega
      have e1 := w2_other h1 h2
      have b1 : (bt s k == 60) = false := by simpa using h1
      have b2 : (bt s k == 38) = false := by simpa using h2
      have i7 : ¬ 9223372036854775807 < (w2 s k).size + (s.extract k (k + 1)).size := by rw [one_size hlt]; omega
      clear h1 h2 HA HK
      generalize bt s k = x at i0 b1 b2
      generalize w2 s k = y at e1 i7 z1 z2 ⊢
      go_wp2
      go_roundw
      case rel => exact ⟨k + 1, by omega, by go_num, by rw [e1], by first | rfl | trivial⟩
      case measure => simp [intOf]; omega
    · obtain rfl : k = s.size := by omega
      have H1 := HA (w2 s s.size) (by omega)
      by_cases h0 : s.size = 0
      · rw [w2_nil h0] at H1
        have he := empty_is h0
        generalize w2 s s.size = y at H1 z1 z2 ⊢
        clear h0
        go_wp2_with fail
        refine H1.mono ?_
        rintro e w1 ⟨ao, n, c, q, rfl, M, hq⟩
        have hl := M.count hq
        simp only [List.length_cons, List.length_nil] at hl
        subst hl
        obtain ⟨b, off, rfl, a0, a1, a4⟩ := M.rq.told hq 0 (by simp)
        have HK := HK _ M.kp
        have kz := M.kp
        clear H1 M hq HA
        simp [eofT] at a0 a1 a4
        go_wp2_with fail
        refine (from_back HK kz).mono ?_
        rintro e w2 ⟨rfl, k2⟩
        clear HK a0 a1 a4
        go_wp2
        go_ret
        exact ⟨rfl, k2⟩
      · rw [w2_all (by omega)] at H1
        have he := empty_not h0
        generalize w2 s s.size = y at H1 z1 z2 ⊢
        clear h0
        go_wp2_with fail
        refine H1.mono ?_
        rintro e w1 ⟨ao, n, c, q, rfl, M, hq⟩
        have hl := M.count hq
        simp only [List.length_cons, List.length_nil] at hl
        subst hl
        obtain ⟨b, off, rfl, a0, a1, a4⟩ := M.rq.told hq 0 (by simp)
        obtain ⟨b', off', e1, b0, b1, b4⟩ := M.rq.told hq 1 (by simp)
        obtain ⟨rfl, rfl⟩ : b = b' ∧ off = off' := by simpa using e1
        have HK := HK _ M.kp
        have kz := M.kp
        clear H1 M hq HA e1
        simp [eofT, txT] at a0 a1 a4 b0 b1 b4
        have hqq : (s.toList == s.toList) = true := by simp
        go_wp2_with fail
        refine (from_back HK kz).mono ?_
        rintro e w2 ⟨rfl, k2⟩
        clear HK a0 a1 a4 b0 b1 b4
        go_wp2
        go_ret
        exact ⟨rfl, k2⟩

end Go.Proofs.YtcfaejbbjmjgpaaDoor
