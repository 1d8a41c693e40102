/-
  The program's Starts, Fold, Skip and Name, of any text and any place.
-/
import Derived.Test.YthdlmglnieomeaaSmall
import Derived.BigQuiet
import Derived.Deep.QuietTactic
namespace Go.Proofs.Ythdlmglnieomeaa
open Go.RowKit Utf

set_option maxHeartbeats 1000000 in
set_option maxRecDepth 100000 in
theorem starts_any (w : World) (s : ByteArray) (p : Int) (sub : ByteArray) (hs : s.size ≤ 100000) : Calls Try.prog 33 #[.string s, .int .i64 p, .string sub] w fun e w' => e = .returned (.bool (st s (pl s.size p) sub)) ∧ Kp [] w w' := by
  have HP := place_any w s p
  have hpl := pl_le s.size p
  generalize pl s.size p = a at HP hpl
  have HF := fits_any w s sub a hpl hs
  by_cases hf : a + sub.size ≤ s.size
  · rw [decide_eq_true hf] at HF
    go_enter Try.func33, Try.ntmps33
    go_wp2_with fail
    refine HP.mono ?_
    rintro e w1 ⟨rfl, rfl⟩
    clear HP
    go_wp2_with fail
    refine HF.mono ?_
    rintro e w1 ⟨rfl, rfl⟩
    clear HF
    go_wp2
    go_loopw [18] (fun i wr => ∃ k : Nat, k ≤ sub.size ∧ i = .int .i64 k ∧ Kp [] w1 wr ∧ Hid (∀ j, j < k → bt s (a + j) = bt sub j)) (fun i _ => sub.size - (intOf i).toNat)
    case atStart => exact ⟨0, Nat.zero_le _, rfl, Kp.refl _ _, fun j hj => by omega⟩
    case round =>
      obtain ⟨k, hk, rfl, kp, hb⟩ := hrel
      by_cases hlt : k < sub.size
      · have i1 := index_at s ((a : Int) + (k : Int)) (a + k) (by omega) (by omega)
        have i2 := index_at sub (k : Int) k rfl hlt
        by_cases he : bt s (a + k) = bt sub k
        · have hb2 : Hid (∀ j, j < k + 1 → bt s (a + j) = bt sub j) := fun j hj => by
            by_cases hjk : j = k
            · rw [hjk]; exact he
            · exact hb.out j (by omega)
          rw [he] at i1
          generalize bt sub k = x at i1 i2
          clear he hb
          go_wp2
          go_quiet (fail)
          go_wp2
          go_roundw
          case rel => exact ⟨k + 1, by omega, by go_num, kp.drewN _, hb2⟩
          case measure => simp [intOf]; omega
        · have hno : Hid (st s a sub = false) := st_not k hlt he
          have hne : (bt s (a + k) != bt sub k) = true := by simpa using he
          have hne2 : (bt s (a + k) == bt sub k) = false := by simpa using he
          generalize bt s (a + k) = y at i1 hne hne2
          generalize bt sub k = x at i2 hne hne2
          clear he hb
          go_wp2
          go_quiet (fail)
          go_wp2
          go_ret
          exact ⟨by rw [hno.out]; rfl, kp.drewN _⟩
      · obtain rfl : k = sub.size := by omega
        have hyes : Hid (st s a sub = true) := st_true hf hb.out
        clear hb
        go_wp2
        go_ret
        exact ⟨by rw [hyes.out]; rfl, kp⟩
  · rw [decide_eq_false hf] at HF
    rw [st_long hf]
    clear hf
    go_enter Try.func33, Try.ntmps33
    go_wp2_with fail
    refine HP.mono ?_
    rintro e w1 ⟨rfl, rfl⟩
    clear HP
    go_wp2_with fail
    refine HF.mono ?_
    rintro e w1 ⟨rfl, rfl⟩
    clear HF
    go_wp2
    go_ret
    exact ⟨rfl, Kp.refl _ _⟩

set_option maxHeartbeats 1000000 in
set_option maxRecDepth 100000 in
theorem fold_any (w : World) (s : ByteArray) (p : Int) (sub : ByteArray) (hs : s.size ≤ 100000) : Calls Try.prog 35 #[.string s, .int .i64 p, .string sub] w fun e w' => e = .returned (.bool (fo s (pl s.size p) sub)) ∧ Kp [] w w' := by
  have HP := place_any w s p
  have hpl := pl_le s.size p
  generalize pl s.size p = a at HP hpl
  have HF := fits_any w s sub a hpl hs
  by_cases hf : a + sub.size ≤ s.size
  · rw [decide_eq_true hf] at HF
    go_enter Try.func35, Try.ntmps35
    go_wp2_with fail
    refine HP.mono ?_
    rintro e w1 ⟨rfl, rfl⟩
    clear HP
    go_wp2_with fail
    refine HF.mono ?_
    rintro e w1 ⟨rfl, rfl⟩
    clear HF
    go_wp2
    go_loopw [18] (fun i wr => ∃ k : Nat, k ≤ sub.size ∧ i = .int .i64 k ∧ Kp [] w1 wr ∧ Hid (∀ j, j < k → low (bt s (a + j)) = low (bt sub j))) (fun i _ => sub.size - (intOf i).toNat)
    case atStart => exact ⟨0, Nat.zero_le _, rfl, Kp.refl _ _, fun j hj => by omega⟩
    case round =>
      obtain ⟨k, hk, rfl, kp, hb⟩ := hrel
      by_cases hlt : k < sub.size
      · have i1 := index_at s ((a : Int) + (k : Int)) (a + k) (by omega) (by omega)
        have i2 := index_at sub (k : Int) k rfl hlt
        by_cases he : low (bt s (a + k)) = low (bt sub k)
        · have hb2 : Hid (∀ j, j < k + 1 → low (bt s (a + j)) = low (bt sub j)) := fun j hj => by
            by_cases hjk : j = k
            · rw [hjk]; exact he
            · exact hb.out j (by omega)
          have hne : Hid ((low (bt s (a + k)) != low (bt sub k)) = false) := by
            show _ = _
            simpa using he
          generalize bt s (a + k) = y at i1 hne
          generalize bt sub k = x at i2 hne
          clear he hb
          go_wp2
          go_quiet (first | (go_at_call 53; refine Calls.quiet_of_same (small_any _ _)))
          rw [hne.out]
          go_wp2
          go_roundw
          case rel => exact ⟨k + 1, by omega, by go_num, kp.drewN _, hb2⟩
          case measure => simp [intOf]; omega
        · have hno : Hid (fo s a sub = false) := fo_not k hlt he
          have hne : Hid ((low (bt s (a + k)) != low (bt sub k)) = true) := by
            show _ = _
            simpa using he
          generalize bt s (a + k) = y at i1 hne
          generalize bt sub k = x at i2 hne
          clear he hb
          go_wp2
          go_quiet (first | (go_at_call 53; refine Calls.quiet_of_same (small_any _ _)))
          rw [hne.out]
          go_wp2
          go_ret
          exact ⟨by rw [hno.out]; rfl, kp.drewN _⟩
      · obtain rfl : k = sub.size := by omega
        have hyes : Hid (fo s a sub = true) := fo_true hf hb.out
        clear hb
        go_wp2
        go_ret
        exact ⟨by rw [hyes.out]; rfl, kp⟩
  · rw [decide_eq_false hf] at HF
    rw [fo_long hf]
    clear hf
    go_enter Try.func35, Try.ntmps35
    go_wp2_with fail
    refine HP.mono ?_
    rintro e w1 ⟨rfl, rfl⟩
    clear HP
    go_wp2_with fail
    refine HF.mono ?_
    rintro e w1 ⟨rfl, rfl⟩
    clear HF
    go_wp2
    go_ret
    exact ⟨rfl, Kp.refl _ _⟩

set_option maxHeartbeats 1000000 in
set_option maxRecDepth 100000 in
theorem skip_any (w : World) (s : ByteArray) (p : Int) (hs : s.size ≤ 100000) : Calls Try.prog 54 #[.string s, .int .i64 p] w fun e w' => e = .returned (.int .i64 (skipF s (pl s.size p) : Int)) ∧ w' = w := by
  have HP := place_any w s p
  have hpl := pl_le s.size p
  generalize pl s.size p = a at HP hpl
  go_enter Try.func54, Try.ntmps54
  go_wp2_with fail
  refine HP.mono ?_
  rintro e w1 ⟨rfl, rfl⟩
  clear HP
  go_wp2
  go_loopw [1] (fun i wr => ∃ k : Nat, a ≤ k ∧ k ≤ s.size ∧ i = .int .i64 k ∧ wr = w1 ∧ Hid (∀ j, a ≤ j → j < k → isSp (bt s j) = true)) (fun i _ => s.size - (intOf i).toNat)
  case atStart => exact ⟨a, Nat.le_refl _, hpl, rfl, rfl, fun j h1 h2 => by omega⟩
  case round =>
    obtain ⟨k, ha, hk, rfl, rfl, hb⟩ := hrel
    by_cases hlt : k < s.size
    · have i1 := index_at s (k : Int) k rfl hlt
      have HC := bspace_any wr (bt s k) (bt_range s k)
      cases hx : isSp (bt s k) with
      | true =>
        have hb2 : Hid (∀ j, a ≤ j → j < k + 1 → isSp (bt s j) = true) := fun j h1 hj => by
          by_cases hjk : j = k
          · rw [hjk]; exact hx
          · exact hb.out j h1 (by omega)
        rw [hx] at HC
        generalize bt s k = x at i1 HC
        clear hx hb
        go_wp2_with fail
        refine HC.mono ?_
        rintro e w2 ⟨rfl, rfl⟩
        clear HC
        go_wp2
        go_roundw
        case rel => exact ⟨k + 1, by omega, by omega, by go_num, trivial, hb2⟩
        case measure => simp [intOf]; omega
      | false =>
        have hd : Hid (skipF s a = k) := fs_eq ⟨ha, hk, fun j h1 h2 => by rw [hb.out j h1 h2]; rfl, fun _ => by rw [hx]; rfl⟩
        rw [hx] at HC
        generalize bt s k = x at i1 HC
        clear hx hb
        go_wp2_with fail
        refine HC.mono ?_
        rintro e w2 ⟨rfl, rfl⟩
        clear HC
        go_wp2
        go_ret
        exact ⟨by rw [hd.out]; rfl, rfl⟩
    · obtain rfl : k = s.size := by omega
      have hd : Hid (skipF s a = s.size) := fs_eq ⟨ha, hk, fun j h1 h2 => by rw [hb.out j h1 h2]; rfl, fun h => by omega⟩
      clear hb
      go_wp2
      go_ret
      exact ⟨by rw [hd.out]; rfl, rfl⟩

end Go.Proofs.Ythdlmglnieomeaa
