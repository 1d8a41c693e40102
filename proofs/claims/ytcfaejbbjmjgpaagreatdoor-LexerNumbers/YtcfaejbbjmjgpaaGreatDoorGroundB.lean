/-
  Joined: Reads Refs Arr Until.
-/
import Derived.Test.YtcfaejbbjmjgpaaGreatDoorGroundA
import Derived.BigQuiet
import Derived.Deep.QuietTactic
import Derived.Laws.MakeOwn
import Derived.Laws.OwnMore
import Derived.Deep.RegionWith
import Derived.Deep.Cut

/-
  The program's Starts, Fold, Skip and Name, of any text and any place.
-/
namespace Go.Proofs.YtcfaejbbjmjgpaaGreatDoor
open Go.RowKit Utf

set_option maxHeartbeats 1000000 in
set_option maxRecDepth 100000 in
theorem starts_any (w : World) (s : ByteArray) (p : Int) (sub : ByteArray) (hs : s.size ≤ 100000) : Calls Tryz.prog 58 #[.string s, .int .i64 p, .string sub] w fun e w' => e = .returned (.bool (st s (pl s.size p) sub)) ∧ Kp [] w w' := by
  have HP := place_any w s p
  have hpl := pl_le s.size p
  generalize pl s.size p = a at HP hpl
  have HF := fits_any w s sub a hpl hs
  by_cases hf : a + sub.size ≤ s.size
  · rw [decide_eq_true hf] at HF
    go_enter Tryz.func58, Tryz.ntmps58
    go_wp2_with fail
    refine HP.mono ?_
    rintro e w1 ⟨rfl, rfl⟩
    clear HP
    go_wp2_with fail
    refine HF.mono ?_
    rintro e w1 ⟨rfl, rfl⟩
    clear HF
    go_wp2
    go_loopw [18] (fun i wr => ∃ k : Nat, k ≤ sub.size ∧ i = .int .i64 k ∧ Kp [] w1 wr ∧ Hid (∀ j, j < k → bt s (a + j) = bt sub j)) (fun i _ => sub.size - (intOf i).toNat)
    case atStart => exact ⟨0, Nat.zero_le _, rfl, Kp.refl _ _, fun j hj => by omega⟩
    case round =>
      obtain ⟨k, hk, rfl, kp, hb⟩ := hrel
      by_cases hlt : k < sub.size
      · have i1 := index_at s ((a : Int) + (k : Int)) (a + k) (by omega) (by omega)
        have i2 := index_at sub (k : Int) k rfl hlt
        by_cases he : bt s (a + k) = bt sub k
        · have hb2 : Hid (∀ j, j < k + 1 → bt s (a + j) = bt sub j) := fun j hj => by
            by_cases hjk : j = k
            · rw [hjk]; exact he
            · exact hb.out j (by omega)
          rw [he] at i1
          generalize bt sub k = x at i1 i2
          clear he hb
          go_wp2
          go_quiet (fail)
          go_wp2
          go_roundw
          case rel => exact ⟨k + 1, by omega, by go_num, kp.drewN _, hb2⟩
          case measure => simp [intOf]; omega
        · have hno : Hid (st s a sub = false) := st_not k hlt he
          have hne : (bt s (a + k) != bt sub k) = true := by simpa using he
          have hne2 : (bt s (a + k) == bt sub k) = false := by simpa using he
          generalize bt s (a + k) = y at i1 hne hne2
          generalize bt sub k = x at i2 hne hne2
          clear he hb
          go_wp2
          go_quiet (fail)
          go_wp2
          go_ret
          exact ⟨by rw [hno.out]; rfl, kp.drewN _⟩
      · obtain rfl : k = sub.size := by omega
        have hyes : Hid (st s a sub = true) := st_true hf hb.out
        clear hb
        go_wp2
        go_ret
        exact ⟨by rw [hyes.out]; rfl, kp⟩
  · rw [decide_eq_false hf] at HF
    rw [st_long hf]
    clear hf
    go_enter Tryz.func58, Tryz.ntmps58
    go_wp2_with fail
    refine HP.mono ?_
    rintro e w1 ⟨rfl, rfl⟩
    clear HP
    go_wp2_with fail
    refine HF.mono ?_
    rintro e w1 ⟨rfl, rfl⟩
    clear HF
    go_wp2
    go_ret
    exact ⟨rfl, Kp.refl _ _⟩

set_option maxHeartbeats 1000000 in
set_option maxRecDepth 100000 in
theorem fold_any (w : World) (s : ByteArray) (p : Int) (sub : ByteArray) (hs : s.size ≤ 100000) : Calls Tryz.prog 60 #[.string s, .int .i64 p, .string sub] w fun e w' => e = .returned (.bool (fo s (pl s.size p) sub)) ∧ Kp [] w w' := by
  have HP := place_any w s p
  have hpl := pl_le s.size p
  generalize pl s.size p = a at HP hpl
  have HF := fits_any w s sub a hpl hs
  by_cases hf : a + sub.size ≤ s.size
  · rw [decide_eq_true hf] at HF
    go_enter Tryz.func60, Tryz.ntmps60
    go_wp2_with fail
    refine HP.mono ?_
    rintro e w1 ⟨rfl, rfl⟩
    clear HP
    go_wp2_with fail
    refine HF.mono ?_
    rintro e w1 ⟨rfl, rfl⟩
    clear HF
    go_wp2
    go_loopw [18] (fun i wr => ∃ k : Nat, k ≤ sub.size ∧ i = .int .i64 k ∧ Kp [] w1 wr ∧ Hid (∀ j, j < k → low (bt s (a + j)) = low (bt sub j))) (fun i _ => sub.size - (intOf i).toNat)
    case atStart => exact ⟨0, Nat.zero_le _, rfl, Kp.refl _ _, fun j hj => by omega⟩
    case round =>
      obtain ⟨k, hk, rfl, kp, hb⟩ := hrel
      by_cases hlt : k < sub.size
      · have i1 := index_at s ((a : Int) + (k : Int)) (a + k) (by omega) (by omega)
        have i2 := index_at sub (k : Int) k rfl hlt
        by_cases he : low (bt s (a + k)) = low (bt sub k)
        · have hb2 : Hid (∀ j, j < k + 1 → low (bt s (a + j)) = low (bt sub j)) := fun j hj => by
            by_cases hjk : j = k
            · rw [hjk]; exact he
            · exact hb.out j (by omega)
          have hne : Hid ((low (bt s (a + k)) != low (bt sub k)) = false) := by
            show _ = _
            simpa using he
          generalize bt s (a + k) = y at i1 hne
          generalize bt sub k = x at i2 hne
          clear he hb
          go_wp2
          go_quiet (first | (go_at_call 87; refine Calls.quiet_of_same (small_any _ _)))
          rw [hne.out]
          go_wp2
          go_roundw
          case rel => exact ⟨k + 1, by omega, by go_num, kp.drewN _, hb2⟩
          case measure => simp [intOf]; omega
        · have hno : Hid (fo s a sub = false) := fo_not k hlt he
          have hne : Hid ((low (bt s (a + k)) != low (bt sub k)) = true) := by
            show _ = _
            simpa using he
          generalize bt s (a + k) = y at i1 hne
          generalize bt sub k = x at i2 hne
          clear he hb
          go_wp2
          go_quiet (first | (go_at_call 87; refine Calls.quiet_of_same (small_any _ _)))
          rw [hne.out]
          go_wp2
          go_ret
          exact ⟨by rw [hno.out]; rfl, kp.drewN _⟩
      · obtain rfl : k = sub.size := by omega
        have hyes : Hid (fo s a sub = true) := fo_true hf hb.out
        clear hb
        go_wp2
        go_ret
        exact ⟨by rw [hyes.out]; rfl, kp⟩
  · rw [decide_eq_false hf] at HF
    rw [fo_long hf]
    clear hf
    go_enter Tryz.func60, Tryz.ntmps60
    go_wp2_with fail
    refine HP.mono ?_
    rintro e w1 ⟨rfl, rfl⟩
    clear HP
    go_wp2_with fail
    refine HF.mono ?_
    rintro e w1 ⟨rfl, rfl⟩
    clear HF
    go_wp2
    go_ret
    exact ⟨rfl, Kp.refl _ _⟩

set_option maxHeartbeats 1000000 in
set_option maxRecDepth 100000 in
theorem skip_any (w : World) (s : ByteArray) (p : Int) (hs : s.size ≤ 100000) : Calls Tryz.prog 96 #[.string s, .int .i64 p] w fun e w' => e = .returned (.int .i64 (skipF s (pl s.size p) : Int)) ∧ w' = w := by
  have HP := place_any w s p
  have hpl := pl_le s.size p
  generalize pl s.size p = a at HP hpl
  go_enter Tryz.func96, Tryz.ntmps96
  go_wp2_with fail
  refine HP.mono ?_
  rintro e w1 ⟨rfl, rfl⟩
  clear HP
  go_wp2
  go_loopw [1] (fun i wr => ∃ k : Nat, a ≤ k ∧ k ≤ s.size ∧ i = .int .i64 k ∧ wr = w1 ∧ Hid (∀ j, a ≤ j → j < k → isSp (bt s j) = true)) (fun i _ => s.size - (intOf i).toNat)
  case atStart => exact ⟨a, Nat.le_refl _, hpl, rfl, rfl, fun j h1 h2 => by omega⟩
  case round =>
    obtain ⟨k, ha, hk, rfl, rfl, hb⟩ := hrel
    by_cases hlt : k < s.size
    · have i1 := index_at s (k : Int) k rfl hlt
      have HC := bspace_any wr (bt s k) (bt_range s k)
      cases hx : isSp (bt s k) with
      | true =>
        have hb2 : Hid (∀ j, a ≤ j → j < k + 1 → isSp (bt s j) = true) := fun j h1 hj => by
          by_cases hjk : j = k
          · rw [hjk]; exact hx
          · exact hb.out j h1 (by omega)
        rw [hx] at HC
        generalize bt s k = x at i1 HC
        clear hx hb
        go_wp2_with fail
        refine HC.mono ?_
        rintro e w2 ⟨rfl, rfl⟩
        clear HC
        go_wp2
        go_roundw
        case rel => exact ⟨k + 1, by omega, by omega, by go_num, trivial, hb2⟩
        case measure => simp [intOf]; omega
      | false =>
        have hd : Hid (skipF s a = k) := fs_eq ⟨ha, hk, fun j h1 h2 => by rw [hb.out j h1 h2]; rfl, fun _ => by rw [hx]; rfl⟩
        rw [hx] at HC
        generalize bt s k = x at i1 HC
        clear hx hb
        go_wp2_with fail
        refine HC.mono ?_
        rintro e w2 ⟨rfl, rfl⟩
        clear HC
        go_wp2
        go_ret
        exact ⟨by rw [hd.out]; rfl, rfl⟩
    · obtain rfl : k = s.size := by omega
      have hd : Hid (skipF s a = s.size) := fs_eq ⟨ha, hk, fun j h1 h2 => by rw [hb.out j h1 h2]; rfl, fun h => by omega⟩
      clear hb
      go_wp2
      go_ret
      exact ⟨by rw [hd.out]; rfl, rfl⟩

set_option maxHeartbeats 1000000 in
set_option maxRecDepth 100000 in
theorem name_any (w : World) (s : ByteArray) (p : Int) (hs : s.size ≤ 100000) : Calls Tryz.prog 59 #[.string s, .int .i64 p] w fun e w' => e = .returned (.int .i64 (nameF s (pl s.size p) : Int)) ∧ w' = w := by
  have HP := place_any w s p
  have hpl := pl_le s.size p
  generalize pl s.size p = a at HP hpl
  go_enter Tryz.func59, Tryz.ntmps59
  go_wp2_with fail
  refine HP.mono ?_
  rintro e w1 ⟨rfl, rfl⟩
  clear HP
  go_wp2
  go_loopw [1] (fun i wr => ∃ k : Nat, a ≤ k ∧ k ≤ s.size ∧ i = .int .i64 k ∧ wr = w1 ∧ Hid (∀ j, a ≤ j → j < k → enN (bt s j) = false)) (fun i _ => s.size - (intOf i).toNat)
  case atStart => exact ⟨a, Nat.le_refl _, hpl, rfl, rfl, fun j h1 h2 => by omega⟩
  case round =>
    obtain ⟨k, ha, hk, rfl, rfl, hb⟩ := hrel
    by_cases hlt : k < s.size
    · have i1 := index_at s (k : Int) k rfl hlt
      have HC := ends_any wr (bt s k) (bt_range s k)
      cases hx : enN (bt s k) with
      | false =>
        have hb2 : Hid (∀ j, a ≤ j → j < k + 1 → enN (bt s j) = false) := fun j h1 hj => by
          by_cases hjk : j = k
          · rw [hjk]; exact hx
          · exact hb.out j h1 (by omega)
        rw [hx] at HC
        generalize bt s k = x at i1 HC
        clear hx hb
        go_wp2_with fail
        refine HC.mono ?_
        rintro e w2 ⟨rfl, rfl⟩
        clear HC
        go_wp2
        go_roundw
        case rel => exact ⟨k + 1, by omega, by omega, by go_num, trivial, hb2⟩
        case measure => simp [intOf]; omega
      | true =>
        have hd : Hid (nameF s a = k) := fs_eq ⟨ha, hk, fun j h1 h2 => by exact hb.out j h1 h2, fun _ => by exact hx⟩
        rw [hx] at HC
        generalize bt s k = x at i1 HC
        clear hx hb
        go_wp2_with fail
        refine HC.mono ?_
        rintro e w2 ⟨rfl, rfl⟩
        clear HC
        go_wp2
        go_ret
        exact ⟨by rw [hd.out]; rfl, rfl⟩
    · obtain rfl : k = s.size := by omega
      have hd : Hid (nameF s a = s.size) := fs_eq ⟨ha, hk, fun j h1 h2 => by exact hb.out j h1 h2, fun h => by omega⟩
      clear hb
      go_wp2
      go_ret
      exact ⟨by rw [hd.out]; rfl, rfl⟩

end Go.Proofs.YtcfaejbbjmjgpaaGreatDoor

/-
  The document's Starts, Fold, Find, Until, Skip and Name, of any text and any place.
-/
namespace Go.Proofs.YtcfaejbbjmjgpaaGreatDoor
open Go.RowKit Utf

set_option maxHeartbeats 1000000 in
set_option maxRecDepth 100000 in
theorem ref_starts_any (w : World) (s : ByteArray) (p : Int) (sub : ByteArray) (hs : s.size ≤ 100000) (hb : sub.size ≤ 100000) : Calls Tryz.prog 46 #[.string s, .int .i64 p, .string sub] w fun e w' => e = .returned (.bool (st s (pl s.size p) sub)) ∧ w' = w := by
  have HP := ref_place_any w s p
  have hpl := pl_le s.size p
  generalize pl s.size p = a at HP hpl
  by_cases hf : a + sub.size ≤ s.size
  · have hd : Hid (((s.extract a (a + sub.size)).toList == sub.toList) = st s a sub) := by
      show _ = _
      rw [st_cut hf, list_eq]
    have hc : ((sub.size : Int) ≤ (s.size : Int) - (a : Int)) := by omega
    go_enter Tryz.func46, Tryz.ntmps46
    go_wp2_with fail
    refine HP.mono ?_
    rintro e w1 ⟨rfl, rfl⟩
    clear HP
    go_wp2
    go_ret
    exact ⟨by rw [← hd.out]; rfl, rfl⟩
  · have hc : ¬ ((sub.size : Int) ≤ (s.size : Int) - (a : Int)) := by omega
    rw [st_long hf]
    clear hf
    go_enter Tryz.func46, Tryz.ntmps46
    go_wp2_with fail
    refine HP.mono ?_
    rintro e w1 ⟨rfl, rfl⟩
    clear HP
    go_wp2
    go_ret
    exact ⟨rfl, rfl⟩

theorem ref_fold_any (w : World) (s : ByteArray) (p : Int) (sub : ByteArray) (hs : s.size ≤ 100000) (hb : sub.size ≤ 100000) : Calls Tryz.prog 50 #[.string s, .int .i64 p, .string sub] w fun e w' => e = .returned (.bool (fo s (pl s.size p) sub)) ∧ Kp [] w w' := by
  have H1 := ref_lower_any w s hs
  go_enter Tryz.func50, Tryz.ntmps50
  go_wp2_with fail
  refine H1.mono ?_
  rintro e w1 ⟨rfl, k1⟩
  clear H1
  have H2 := ref_lower_any w1 sub hb
  go_wp2_with fail
  refine H2.mono ?_
  rintro e w2 ⟨rfl, k2⟩
  clear H2
  have k3 := k1.trans k2 (fun x hx => by simp at hx)
  have H3 := ref_starts_any w2 (lower s) p (lower sub) (by rw [lower_size]; exact hs) (by rw [lower_size]; exact hb)
  rw [lower_size, st_lower] at H3
  clear k1 k2
  go_wp2_with fail
  refine H3.mono ?_
  rintro e w3 ⟨rfl, rfl⟩
  clear H3
  go_wp2
  go_ret
  exact ⟨rfl, k3⟩

set_option maxHeartbeats 1000000 in
set_option maxRecDepth 100000 in
theorem has_any (w : World) (set : ByteArray) (x : Int) (hs : set.size ≤ 100000) : Calls Tryz.prog 74 #[.string set, .int .u8 x] w fun e w' => e = .returned (.bool (inS set x)) ∧ w' = w := by
  go_enter Tryz.func74, Tryz.ntmps74
  go_wp2
  go_loopw [5] (fun i wr => ∃ k : Nat, k ≤ set.size ∧ i = .int .i64 k ∧ wr = w ∧ Hid (∀ j, j < k → ¬ bt set j = x)) (fun i _ => set.size - (intOf i).toNat)
  case atStart => exact ⟨0, Nat.zero_le _, rfl, rfl, fun j h => by omega⟩
  case round =>
    obtain ⟨k, hk, rfl, rfl, hb⟩ := hrel
    by_cases hlt : k < set.size
    · have i1 := index_at set (k : Int) k rfl hlt
      by_cases he : bt set k = x
      · have hd : Hid (inS set x = true) := decide_eq_true ⟨k, hlt, he⟩
        rw [he] at i1
        clear he hb
        go_wp2
        go_ret
        exact ⟨by rw [hd.out]; rfl, rfl⟩
      · have hb2 : Hid (∀ j, j < k + 1 → ¬ bt set j = x) := fun j hj => by
          by_cases hjk : j = k
          · rw [hjk]; exact he
          · exact hb.out j (by omega)
        have hne : (bt set k == x) = false := by simpa using he
        generalize bt set k = y at i1 hne
        clear he hb
        go_wp2
        go_roundw
        case rel => exact ⟨k + 1, by omega, by go_num, trivial, hb2⟩
        case measure => simp [intOf]; omega
    · obtain rfl : k = set.size := by omega
      have hd : Hid (inS set x = false) := decide_eq_false (fun ⟨j, h1, h2⟩ => hb.out j h1 h2)
      clear hb
      go_wp2
      go_ret
      exact ⟨by rw [hd.out]; rfl, rfl⟩

set_option maxHeartbeats 1000000 in
set_option maxRecDepth 100000 in
theorem ref_until_any (w : World) (s : ByteArray) (p : Int) (set : ByteArray) (hs : s.size ≤ 100000) (hset : set.size ≤ 100000) : Calls Tryz.prog 52 #[.string s, .int .i64 p, .string set] w fun e w' => e = .returned (.int .i64 (untilF s set (pl s.size p) : Int)) ∧ w' = w := by
  have HP := ref_place_any w s p
  have hpl := pl_le s.size p
  generalize pl s.size p = a at HP hpl
  go_enter Tryz.func52, Tryz.ntmps52
  go_wp2_with fail
  refine HP.mono ?_
  rintro e w1 ⟨rfl, rfl⟩
  clear HP
  go_wp2
  go_loopw [7] (fun i wr => ∃ k : Nat, a ≤ k ∧ k ≤ s.size ∧ i = .int .i64 k ∧ wr = w1 ∧ Hid (∀ j, a ≤ j → j < k → inS set (bt s j) = false)) (fun i _ => s.size - (intOf i).toNat)
  case atStart => exact ⟨a, Nat.le_refl _, hpl, rfl, rfl, fun j h1 h2 => by omega⟩
  case round =>
    obtain ⟨k, ha, hk, rfl, rfl, hb⟩ := hrel
    by_cases hlt : k < s.size
    · have i1 := index_at s (k : Int) k rfl hlt
      have HC := has_any wr set (bt s k) hset
      cases hx : inS set (bt s k) with
      | false =>
        have hb2 : Hid (∀ j, a ≤ j → j < k + 1 → inS set (bt s j) = false) := fun j h1 hj => by
          by_cases hjk : j = k
          · rw [hjk]; exact hx
          · exact hb.out j h1 (by omega)
        rw [hx] at HC
        generalize bt s k = x at i1 HC
        clear hx hb
        go_wp2_with fail
        refine HC.mono ?_
        rintro e w2 ⟨rfl, rfl⟩
        clear HC
        go_wp2
        go_roundw
        case rel => exact ⟨k + 1, by omega, by omega, by go_num, trivial, hb2⟩
        case measure => simp [intOf]; omega
      | true =>
        have hd : Hid (untilF s set a = k) := fs_eq ⟨ha, hk, fun j h1 h2 => by exact hb.out j h1 h2, fun _ => by exact hx⟩
        rw [hx] at HC
        generalize bt s k = x at i1 HC
        clear hx hb
        go_wp2_with fail
        refine HC.mono ?_
        rintro e w2 ⟨rfl, rfl⟩
        clear HC
        go_wp2
        go_ret
        exact ⟨by rw [hd.out]; rfl, rfl⟩
    · obtain rfl : k = s.size := by omega
      have hd : Hid (untilF s set a = s.size) := fs_eq ⟨ha, hk, fun j h1 h2 => by exact hb.out j h1 h2, fun h => by omega⟩
      clear hb
      go_wp2
      go_ret
      exact ⟨by rw [hd.out]; rfl, rfl⟩

theorem ref_name_any (w : World) (s : ByteArray) (p : Int) (hs : s.size ≤ 100000) : Calls Tryz.prog 65 #[.string s, .int .i64 p] w fun e w' => e = .returned (.int .i64 (nameF s (pl s.size p) : Int)) ∧ w' = w := by
  have HU := ref_until_any w s p ENDS hs (by decide)
  rw [name_until] at HU
  unfold ENDS at HU
  go_enter Tryz.func65, Tryz.ntmps65
  go_wp2_with fail
  refine HU.mono ?_
  rintro e w1 ⟨rfl, rfl⟩
  clear HU
  go_wp2
  go_ret
  exact ⟨rfl, rfl⟩

set_option maxHeartbeats 1000000 in
set_option maxRecDepth 100000 in
theorem ref_skip_any (w : World) (s : ByteArray) (p : Int) (hs : s.size ≤ 100000) : Calls Tryz.prog 51 #[.string s, .int .i64 p] w fun e w' => e = .returned (.int .i64 (skipF s (pl s.size p) : Int)) ∧ w' = w := by
  have HP := ref_place_any w s p
  have hpl := pl_le s.size p
  generalize pl s.size p = a at HP hpl
  go_enter Tryz.func51, Tryz.ntmps51
  go_wp2_with fail
  refine HP.mono ?_
  rintro e w1 ⟨rfl, rfl⟩
  clear HP
  go_wp2
  go_loopw [5] (fun i wr => ∃ k : Nat, a ≤ k ∧ k ≤ s.size ∧ i = .int .i64 k ∧ wr = w1 ∧ Hid (∀ j, a ≤ j → j < k → isSp (bt s j) = true)) (fun i _ => s.size - (intOf i).toNat)
  case atStart => exact ⟨a, Nat.le_refl _, hpl, rfl, rfl, fun j h1 h2 => by omega⟩
  case round =>
    obtain ⟨k, ha, hk, rfl, rfl, hb⟩ := hrel
    by_cases hlt : k < s.size
    · have i1 := index_at s (k : Int) k rfl hlt
      have HC := ref_space_any wr (bt s k)
      obtain ⟨r1, r2⟩ := bt_range s k
      cases hx : isSp (bt s k) with
      | true =>
        have hb2 : Hid (∀ j, a ≤ j → j < k + 1 → isSp (bt s j) = true) := fun j h1 hj => by
          by_cases hjk : j = k
          · rw [hjk]; exact hx
          · exact hb.out j h1 (by omega)
        rw [hx] at HC
        generalize bt s k = x at i1 HC r1 r2
        clear hx hb
        go_wp2_with fail
        refine HC.mono ?_
        rintro e w2 ⟨rfl, rfl⟩
        clear HC
        go_wp2
        go_roundw
        case rel => exact ⟨k + 1, by omega, by omega, by go_num, trivial, hb2⟩
        case measure => simp [intOf]; omega
      | false =>
        have hd : Hid (skipF s a = k) := fs_eq ⟨ha, hk, fun j h1 h2 => by rw [hb.out j h1 h2]; rfl, fun _ => by rw [hx]; rfl⟩
        rw [hx] at HC
        generalize bt s k = x at i1 HC r1 r2
        clear hx hb
        go_wp2_with fail
        refine HC.mono ?_
        rintro e w2 ⟨rfl, rfl⟩
        clear HC
        go_wp2
        go_ret
        exact ⟨by rw [hd.out]; rfl, rfl⟩
    · obtain rfl : k = s.size := by omega
      have hd : Hid (skipF s a = s.size) := fs_eq ⟨ha, hk, fun j h1 h2 => by rw [hb.out j h1 h2]; rfl, fun h => by omega⟩
      clear hb
      go_wp2
      go_ret
      exact ⟨by rw [hd.out]; rfl, rfl⟩

set_option maxHeartbeats 1000000 in
set_option maxRecDepth 100000 in
theorem ref_find_any (w : World) (s : ByteArray) (p : Int) (sub : ByteArray) (hs : s.size ≤ 100000) (hsub : sub.size ≤ 100000) : Calls Tryz.prog 54 #[.string s, .int .i64 p, .string sub] w fun e w' => e = .returned (.int .i64 (findF s sub (pl s.size p) : Int)) ∧ w' = w := by
  have HP := ref_place_any w s p
  have hpl := pl_le s.size p
  generalize pl s.size p = a at HP hpl
  go_enter Tryz.func54, Tryz.ntmps54
  go_wp2_with fail
  refine HP.mono ?_
  rintro e w1 ⟨rfl, rfl⟩
  clear HP
  go_wp2
  go_loopw [7] (fun i wr => ∃ k : Nat, a ≤ k ∧ k ≤ s.size + 1 ∧ i = .int .i64 k ∧ wr = w1 ∧ Hid (∀ j, a ≤ j → j < k → st s j sub = false)) (fun i _ => s.size + 1 - (intOf i).toNat)
  case atStart => exact ⟨a, Nat.le_refl _, by omega, rfl, rfl, fun j h1 h2 => by omega⟩
  case round =>
    obtain ⟨k, ha, hk, rfl, rfl, hb⟩ := hrel
    by_cases hlt : k ≤ s.size
    · have HC := ref_starts_any wr s (k : Int) sub hs hsub
      rw [pl_of hlt] at HC
      cases hx : st s k sub with
      | false =>
        have hb2 : Hid (∀ j, a ≤ j → j < k + 1 → st s j sub = false) := fun j h1 hj => by
          by_cases hjk : j = k
          · rw [hjk]; exact hx
          · exact hb.out j h1 (by omega)
        rw [hx] at HC
        clear hx hb
        go_wp2_with fail
        refine HC.mono ?_
        rintro e w2 ⟨rfl, rfl⟩
        clear HC
        go_wp2
        go_roundw
        case rel => exact ⟨k + 1, by omega, by omega, by go_num, trivial, hb2⟩
        case measure => simp [intOf]; omega
      | true =>
        have hd : Hid (findF s sub a = k) := fs_eq ⟨ha, hlt, fun j h1 h2 => by exact hb.out j h1 h2, fun _ => by exact hx⟩
        rw [hx] at HC
        clear hx hb
        go_wp2_with fail
        refine HC.mono ?_
        rintro e w2 ⟨rfl, rfl⟩
        clear HC
        go_wp2
        go_ret
        exact ⟨by rw [hd.out]; rfl, rfl⟩
    · have hd : Hid (findF s sub a = s.size) := fs_eq ⟨hpl, Nat.le_refl _, fun j h1 h2 => by exact hb.out j h1 (by omega), fun h => by omega⟩
      clear hb
      go_wp2
      go_ret
      exact ⟨by rw [hd.out]; rfl, rfl⟩

end Go.Proofs.YtcfaejbbjmjgpaaGreatDoor

/-
  Values in a block of its own (Arr).
-/
namespace Go.Proofs.YtcfaejbbjmjgpaaGreatDoor
open Go.RowKit Utf

/-- In block g, made since w, lie the values xs. -/
structure Arr (w wr : World) (g : Nat) (xs : List Value) : Prop where
  kp : Kp [] w wr
  new : w.heap.size ≤ g
  at' : ∀ j, j < xs.length → wr.cell? ⟨g, j, none⟩ = xs[j]?
  free : ∀ j, j < xs.length → wr.frozen? ⟨g, j, none⟩ = false

theorem Arr.set {w wr : World} {g : Nat} {xs : List Value} (h : Arr w wr g xs) (k : Nat) (hk : k < xs.length) (u : Value) : Arr w (wr.setCell ⟨g, k, none⟩ u) g (xs.set k u) := by
  refine ⟨h.kp.setCell (Or.inr h.new) _, h.new, fun j hj => ?_, fun j hj => ?_⟩
  · have hj2 : j < xs.length := by simpa using hj
    by_cases he : j = k
    · subst he
      rw [World.cell?_setCell_same _ _ _ ((h.at' j hj2).trans (List.getElem?_eq_getElem hj2))]
      simp [hj2]
    · rw [World.cell?_setCell_other _ _ _ _ (fun e => he (congrArg Addr.off e).symm), h.at' j hj2, List.getElem?_set_ne (fun e => he e.symm)]
  · rw [World.frozen?_setCell]
    exact h.free j (by simpa using hj)

theorem Arr.drew {w wr : World} {g : Nat} {xs : List Value} (h : Arr w wr g xs) : Arr w wr.drew g xs := ⟨h.kp.drew, h.new, h.at', h.free⟩
theorem Arr.drewN {w wr : World} {g : Nat} {xs : List Value} (h : Arr w wr g xs) (n : Nat) : Arr w (wr.drewN n) g xs := by
  obtain ⟨h1, h2, h3, h4⟩ := h
  exact ⟨h1.drewN n, h2, h3, h4⟩

theorem Arr.rb {w wr : World} {g n c : Nat} {xs : List Value} (h : Arr w wr g xs) (hn : n = xs.length) (hc : n ≤ c) : Rb wr (some ⟨g, 0, none⟩) n c xs :=
  ⟨hn, hc, fun j hj => ⟨g, 0, rfl, by rw [Nat.zero_add, h.at' j (by omega)]⟩⟩

theorem arr_new (w : World) (cur : Array Value) (e : TypeId) (xs : List Value) (h : cur.toList = xs) : Arr w (w.alloc (.cells cur e)) w.heap.size xs := by
  refine ⟨(Kp.refl _ _).alloc _, Nat.le_refl _, fun j hj => ?_, fun j hj => frozen_of (heap_new w _) j⟩
  rw [cell_of (heap_new w _), ← h]
  simp

end Go.Proofs.YtcfaejbbjmjgpaaGreatDoor

/-
  The program's Until, of any texts.
-/
namespace Go.Proofs.YtcfaejbbjmjgpaaGreatDoor
open Go.RowKit Utf

theorem info38 : (Tryz.prog.info? 107).bind (fun i => i.zero) = some (Value.agg (List.replicate 256 (Value.bool false)).toArray) := by kernel_rfl

theorem zero_of {P : Program} {t : TypeId} {z : Value} (h : (P.info? t).bind (fun i => i.zero) = some z) (w : World) : (zeroValue t).run P w = .ok z w := by
  cases hi : P.info? t with
  | none =>
    rw [hi] at h
    cases h
  | some i =>
    rw [hi] at h
    have hz : i.zero = some z := h
    simp [zeroValue, typeInfo, hi, hz]

/-- Which bytes are among the first k of set. -/
def BV (set : ByteArray) (k : Nat) : List Value := (List.range 256).map fun (n : Nat) => Value.bool (decide (∃ j, j < k ∧ bt set j = (n : Int)))

theorem bv_len (set : ByteArray) (k : Nat) : (BV set k).length = 256 := by simp [BV]
theorem bv_at (set : ByteArray) (k n : Nat) (h : n < 256) : (BV set k)[n]? = some (Value.bool (decide (∃ j, j < k ∧ bt set j = (n : Int)))) := by
  simp [BV, h]
theorem bv_zero (set : ByteArray) : BV set 0 = List.replicate 256 (Value.bool false) := by
  refine List.ext_getElem? fun n => ?_
  by_cases h : n < 256
  · rw [bv_at set 0 n h, List.getElem?_replicate, if_pos h]
    rw [decide_eq_false (fun ⟨j, h1, _⟩ => by omega)]
  · rw [List.getElem?_eq_none (by rw [bv_len]; omega), List.getElem?_eq_none (by rw [List.length_replicate]; omega)]
theorem bv_set (set : ByteArray) (k n : Nat) (hn : bt set k = (n : Int)) : (BV set k).set n (Value.bool true) = BV set (k + 1) := by
  refine List.ext_getElem? fun m => ?_
  by_cases hm : m < 256
  · rw [bv_at set (k + 1) m hm]
    by_cases he : n = m
    · subst he
      rw [List.getElem?_set_self (by rw [bv_len]; exact hm)]
      rw [decide_eq_true (show ∃ j, j < k + 1 ∧ bt set j = (n : Int) from ⟨k, by omega, hn⟩)]
    · rw [List.getElem?_set_ne he, bv_at set k m hm]
      congr 2
      rw [decide_eq_decide]
      constructor
      · rintro ⟨j, h1, h2⟩
        exact ⟨j, by omega, h2⟩
      · rintro ⟨j, h1, h2⟩
        refine ⟨j, ?_, h2⟩
        by_cases hj : j = k
        · rw [hj, hn] at h2
          omega
        · omega
  · rw [List.getElem?_eq_none (by simp [bv_len]; omega), List.getElem?_eq_none (by rw [bv_len]; omega)]

set_option maxHeartbeats 1000000 in
set_option maxRecDepth 100000 in
theorem until_any (w : World) (s : ByteArray) (p : Int) (set : ByteArray) (hs : s.size ≤ 100000) (hset : set.size ≤ 100000) : Calls Tryz.prog 88 #[.string s, .int .i64 p, .string set] w fun e w' => e = .returned (.int .i64 (untilF s set (pl s.size p) : Int)) ∧ Kp [] w w' := by
  have HP := fun W => place_any W s p
  have hpl := pl_le s.size p
  generalize pl s.size p = a at HP hpl
  have A0 : Hid (Arr w (w.alloc (.cells (List.replicate 256 (Value.bool false)).toArray 107)) w.heap.size (BV set 0)) := arr_new w _ _ _ (by rw [bv_zero])
  have hz := zero_of info38 w
  generalize (List.replicate 256 (Value.bool false)).toArray = cur at A0 hz
  go_enter Tryz.func88, Tryz.ntmps88
  go_wp2
  clear hz
  generalize w.alloc (.cells cur 107) = w1 at A0 ⊢
  generalize w.heap.size = g at A0 ⊢
  go_loopw [11] (fun i wr => ∃ k : Nat, k ≤ set.size ∧ i = .int .i64 k ∧ Hid (Arr w wr g (BV set k))) (fun i _ => set.size - (intOf i).toNat)
  case atStart => exact ⟨0, Nat.zero_le _, rfl, A0⟩
  case round =>
    obtain ⟨k, hk, rfl, HA⟩ := hrel
    clear A0
    by_cases hlt : k < set.size
    · have i1 := index_at set (k : Int) k rfl hlt
      obtain ⟨r1, r2⟩ := bt_range set k
      obtain ⟨n, hn⟩ : ∃ n : Nat, bt set k = (n : Int) := ⟨(bt set k).toNat, by omega⟩
      have hn2 : n < 256 := by omega
      have c1 := HA.out.at' n (by rw [bv_len]; exact hn2)
      rw [bv_at set k n hn2] at c1
      have c2 := HA.out.free n (by rw [bv_len]; exact hn2)
      have A1 : Hid (Arr w (wr.setCell ⟨g, n, none⟩ (.bool true)) g (BV set (k + 1))) := by
        show Arr _ _ _ _
        rw [← bv_set set k n hn]
        exact HA.out.set n (by rw [bv_len]; exact hn2) _
      rw [hn] at i1
      generalize decide (∃ j, j < k ∧ bt set j = (n : Int)) = B at c1
      clear hn r1 r2 HA
      go_wp2
      go_roundw
      case rel => exact ⟨k + 1, by omega, by go_num, A1⟩
      case measure => simp [intOf]; omega
    · obtain rfl : k = set.size := by omega
      have hk2 := HA.out.kp
      have HB : Hid (∀ n, n < 256 → wr.cell? ⟨g, n, none⟩ = some (.bool (inS set (n : Int)))) := fun n hn => by
        rw [HA.out.at' n (by rw [bv_len]; exact hn), bv_at set _ n hn]
        rfl
      have HQ := HP wr
      clear HA HP
      go_wp2_with fail
      refine HQ.mono ?_
      rintro e w2 ⟨rfl, rfl⟩
      clear HQ
      go_wp2
      go_loopw [1] (fun i wx => ∃ k : Nat, a ≤ k ∧ k ≤ s.size ∧ i = .int .i64 k ∧ wx = w2 ∧ Hid (∀ j, a ≤ j → j < k → inS set (bt s j) = false)) (fun i _ => s.size - (intOf i).toNat)
      case atStart => exact ⟨a, Nat.le_refl _, hpl, rfl, rfl, fun j h1 h2 => by omega⟩
      case round =>
        obtain ⟨k, ha, hks, rfl, rfl, hb⟩ := hrel
        by_cases hlt2 : k < s.size
        · have i1 := index_at s (k : Int) k rfl hlt2
          obtain ⟨r1, r2⟩ := bt_range s k
          obtain ⟨n, hn⟩ : ∃ n : Nat, bt s k = (n : Int) := ⟨(bt s k).toNat, by omega⟩
          have hn2 : n < 256 := by omega
          have c1 := HB.out n hn2
          rw [hn] at i1
          cases hx : inS set (n : Int) with
          | false =>
            have hb2 : Hid (∀ j, a ≤ j → j < k + 1 → inS set (bt s j) = false) := fun j h1 hj => by
              by_cases hjk : j = k
              · rw [hjk, hn]; exact hx
              · exact hb.out j h1 (by omega)
            rw [hx] at c1
            clear hx hb hn r1 r2
            go_wp2
            go_roundw
            case rel => exact ⟨k + 1, by omega, by omega, by go_num, trivial, hb2⟩
            case measure => simp [intOf]; omega
          | true =>
            have hd : Hid (untilF s set a = k) := fs_eq ⟨ha, hks, fun j h1 h2 => by exact hb.out j h1 h2, fun _ => by rw [hn]; exact hx⟩
            rw [hx] at c1
            clear hx hb hn r1 r2
            go_wp2
            go_ret
            exact ⟨by rw [hd.out]; rfl, hk2⟩
        · obtain rfl : k = s.size := by omega
          have hd : Hid (untilF s set a = s.size) := fs_eq ⟨ha, hks, fun j h1 h2 => by exact hb.out j h1 h2, fun h => by omega⟩
          clear hb
          go_wp2
          go_ret
          exact ⟨by rw [hd.out]; rfl, hk2⟩

end Go.Proofs.YtcfaejbbjmjgpaaGreatDoor
