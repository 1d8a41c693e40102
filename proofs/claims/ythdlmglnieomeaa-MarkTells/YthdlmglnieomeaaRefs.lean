/-
  The document's Starts, Fold, Find, Until, Skip and Name, of any text and any place.
-/
import Derived.Test.YthdlmglnieomeaaReads
import Derived.Test.YthdlmglnieomeaaKmp
namespace Go.Proofs.Ythdlmglnieomeaa
open Go.RowKit Utf

set_option maxHeartbeats 1000000 in
set_option maxRecDepth 100000 in
theorem ref_starts_any (w : World) (s : ByteArray) (p : Int) (sub : ByteArray) (hs : s.size ≤ 100000) (hb : sub.size ≤ 100000) : Calls Try.prog 23 #[.string s, .int .i64 p, .string sub] w fun e w' => e = .returned (.bool (st s (pl s.size p) sub)) ∧ w' = w := by
  have HP := ref_place_any w s p
  have hpl := pl_le s.size p
  generalize pl s.size p = a at HP hpl
  by_cases hf : a + sub.size ≤ s.size
  · have hd : Hid (((s.extract a (a + sub.size)).toList == sub.toList) = st s a sub) := by
      show _ = _
      rw [st_cut hf, list_eq]
    have hc : ((sub.size : Int) ≤ (s.size : Int) - (a : Int)) := by omega
    go_enter Try.func23, Try.ntmps23
    go_wp2_with fail
    refine HP.mono ?_
    rintro e w1 ⟨rfl, rfl⟩
    clear HP
    go_wp2
    go_ret
    exact ⟨by rw [← hd.out]; rfl, rfl⟩
  · have hc : ¬ ((sub.size : Int) ≤ (s.size : Int) - (a : Int)) := by omega
    rw [st_long hf]
    clear hf
    go_enter Try.func23, Try.ntmps23
    go_wp2_with fail
    refine HP.mono ?_
    rintro e w1 ⟨rfl, rfl⟩
    clear HP
    go_wp2
    go_ret
    exact ⟨rfl, rfl⟩

theorem ref_fold_any (w : World) (s : ByteArray) (p : Int) (sub : ByteArray) (hs : s.size ≤ 100000) (hb : sub.size ≤ 100000) : Calls Try.prog 27 #[.string s, .int .i64 p, .string sub] w fun e w' => e = .returned (.bool (fo s (pl s.size p) sub)) ∧ Kp [] w w' := by
  have H1 := ref_lower_any w s hs
  go_enter Try.func27, Try.ntmps27
  go_wp2_with fail
  refine H1.mono ?_
  rintro e w1 ⟨rfl, k1⟩
  clear H1
  have H2 := ref_lower_any w1 sub hb
  go_wp2_with fail
  refine H2.mono ?_
  rintro e w2 ⟨rfl, k2⟩
  clear H2
  have k3 := k1.trans k2 (fun x hx => by simp at hx)
  have H3 := ref_starts_any w2 (lower s) p (lower sub) (by rw [lower_size]; exact hs) (by rw [lower_size]; exact hb)
  rw [lower_size, st_lower] at H3
  clear k1 k2
  go_wp2_with fail
  refine H3.mono ?_
  rintro e w3 ⟨rfl, rfl⟩
  clear H3
  go_wp2
  go_ret
  exact ⟨rfl, k3⟩

set_option maxHeartbeats 1000000 in
set_option maxRecDepth 100000 in
theorem has_any (w : World) (set : ByteArray) (x : Int) (hs : set.size ≤ 100000) : Calls Try.prog 47 #[.string set, .int .u8 x] w fun e w' => e = .returned (.bool (inS set x)) ∧ w' = w := by
  go_enter Try.func47, Try.ntmps47
  go_wp2
  go_loopw [5] (fun i wr => ∃ k : Nat, k ≤ set.size ∧ i = .int .i64 k ∧ wr = w ∧ Hid (∀ j, j < k → ¬ bt set j = x)) (fun i _ => set.size - (intOf i).toNat)
  case atStart => exact ⟨0, Nat.zero_le _, rfl, rfl, fun j h => by omega⟩
  case round =>
    obtain ⟨k, hk, rfl, rfl, hb⟩ := hrel
    by_cases hlt : k < set.size
    · have i1 := index_at set (k : Int) k rfl hlt
      by_cases he : bt set k = x
      · have hd : Hid (inS set x = true) := decide_eq_true ⟨k, hlt, he⟩
        rw [he] at i1
        clear he hb
        go_wp2
        go_ret
        exact ⟨by rw [hd.out]; rfl, rfl⟩
      · have hb2 : Hid (∀ j, j < k + 1 → ¬ bt set j = x) := fun j hj => by
          by_cases hjk : j = k
          · rw [hjk]; exact he
          · exact hb.out j (by omega)
        have hne : (bt set k == x) = false := by simpa using he
        generalize bt set k = y at i1 hne
        clear he hb
        go_wp2
        go_roundw
        case rel => exact ⟨k + 1, by omega, by go_num, trivial, hb2⟩
        case measure => simp [intOf]; omega
    · obtain rfl : k = set.size := by omega
      have hd : Hid (inS set x = false) := decide_eq_false (fun ⟨j, h1, h2⟩ => hb.out j h1 h2)
      clear hb
      go_wp2
      go_ret
      exact ⟨by rw [hd.out]; rfl, rfl⟩

set_option maxHeartbeats 1000000 in
set_option maxRecDepth 100000 in
theorem ref_until_any (w : World) (s : ByteArray) (p : Int) (set : ByteArray) (hs : s.size ≤ 100000) (hset : set.size ≤ 100000) : Calls Try.prog 29 #[.string s, .int .i64 p, .string set] w fun e w' => e = .returned (.int .i64 (untilF s set (pl s.size p) : Int)) ∧ w' = w := by
  have HP := ref_place_any w s p
  have hpl := pl_le s.size p
  generalize pl s.size p = a at HP hpl
  go_enter Try.func29, Try.ntmps29
  go_wp2_with fail
  refine HP.mono ?_
  rintro e w1 ⟨rfl, rfl⟩
  clear HP
  go_wp2
  go_loopw [7] (fun i wr => ∃ k : Nat, a ≤ k ∧ k ≤ s.size ∧ i = .int .i64 k ∧ wr = w1 ∧ Hid (∀ j, a ≤ j → j < k → inS set (bt s j) = false)) (fun i _ => s.size - (intOf i).toNat)
  case atStart => exact ⟨a, Nat.le_refl _, hpl, rfl, rfl, fun j h1 h2 => by omega⟩
  case round =>
    obtain ⟨k, ha, hk, rfl, rfl, hb⟩ := hrel
    by_cases hlt : k < s.size
    · have i1 := index_at s (k : Int) k rfl hlt
      have HC := has_any wr set (bt s k) hset
      cases hx : inS set (bt s k) with
      | false =>
        have hb2 : Hid (∀ j, a ≤ j → j < k + 1 → inS set (bt s j) = false) := fun j h1 hj => by
          by_cases hjk : j = k
          · rw [hjk]; exact hx
          · exact hb.out j h1 (by omega)
        rw [hx] at HC
        generalize bt s k = x at i1 HC
        clear hx hb
        go_wp2_with fail
        refine HC.mono ?_
        rintro e w2 ⟨rfl, rfl⟩
        clear HC
        go_wp2
        go_roundw
        case rel => exact ⟨k + 1, by omega, by omega, by go_num, trivial, hb2⟩
        case measure => simp [intOf]; omega
      | true =>
        have hd : Hid (untilF s set a = k) := fs_eq ⟨ha, hk, fun j h1 h2 => by exact hb.out j h1 h2, fun _ => by exact hx⟩
        rw [hx] at HC
        generalize bt s k = x at i1 HC
        clear hx hb
        go_wp2_with fail
        refine HC.mono ?_
        rintro e w2 ⟨rfl, rfl⟩
        clear HC
        go_wp2
        go_ret
        exact ⟨by rw [hd.out]; rfl, rfl⟩
    · obtain rfl : k = s.size := by omega
      have hd : Hid (untilF s set a = s.size) := fs_eq ⟨ha, hk, fun j h1 h2 => by exact hb.out j h1 h2, fun h => by omega⟩
      clear hb
      go_wp2
      go_ret
      exact ⟨by rw [hd.out]; rfl, rfl⟩


set_option maxHeartbeats 1000000 in
set_option maxRecDepth 100000 in
theorem ref_skip_any (w : World) (s : ByteArray) (p : Int) (hs : s.size ≤ 100000) : Calls Try.prog 28 #[.string s, .int .i64 p] w fun e w' => e = .returned (.int .i64 (skipF s (pl s.size p) : Int)) ∧ w' = w := by
  have HP := ref_place_any w s p
  have hpl := pl_le s.size p
  generalize pl s.size p = a at HP hpl
  go_enter Try.func28, Try.ntmps28
  go_wp2_with fail
  refine HP.mono ?_
  rintro e w1 ⟨rfl, rfl⟩
  clear HP
  go_wp2
  go_loopw [5] (fun i wr => ∃ k : Nat, a ≤ k ∧ k ≤ s.size ∧ i = .int .i64 k ∧ wr = w1 ∧ Hid (∀ j, a ≤ j → j < k → isSp (bt s j) = true)) (fun i _ => s.size - (intOf i).toNat)
  case atStart => exact ⟨a, Nat.le_refl _, hpl, rfl, rfl, fun j h1 h2 => by omega⟩
  case round =>
    obtain ⟨k, ha, hk, rfl, rfl, hb⟩ := hrel
    by_cases hlt : k < s.size
    · have i1 := index_at s (k : Int) k rfl hlt
      have HC := ref_space_any wr (bt s k)
      obtain ⟨r1, r2⟩ := bt_range s k
      cases hx : isSp (bt s k) with
      | true =>
        have hb2 : Hid (∀ j, a ≤ j → j < k + 1 → isSp (bt s j) = true) := fun j h1 hj => by
          by_cases hjk : j = k
          · rw [hjk]; exact hx
          · exact hb.out j h1 (by omega)
        rw [hx] at HC
        generalize bt s k = x at i1 HC r1 r2
        clear hx hb
        go_wp2_with fail
        refine HC.mono ?_
        rintro e w2 ⟨rfl, rfl⟩
        clear HC
        go_wp2
        go_roundw
        case rel => exact ⟨k + 1, by omega, by omega, by go_num, trivial, hb2⟩
        case measure => simp [intOf]; omega
      | false =>
        have hd : Hid (skipF s a = k) := fs_eq ⟨ha, hk, fun j h1 h2 => by rw [hb.out j h1 h2]; rfl, fun _ => by rw [hx]; rfl⟩
        rw [hx] at HC
        generalize bt s k = x at i1 HC r1 r2
        clear hx hb
        go_wp2_with fail
        refine HC.mono ?_
        rintro e w2 ⟨rfl, rfl⟩
        clear HC
        go_wp2
        go_ret
        exact ⟨by rw [hd.out]; rfl, rfl⟩
    · obtain rfl : k = s.size := by omega
      have hd : Hid (skipF s a = s.size) := fs_eq ⟨ha, hk, fun j h1 h2 => by rw [hb.out j h1 h2]; rfl, fun h => by omega⟩
      clear hb
      go_wp2
      go_ret
      exact ⟨by rw [hd.out]; rfl, rfl⟩

set_option maxHeartbeats 1000000 in
set_option maxRecDepth 100000 in
theorem ref_find_any (w : World) (s : ByteArray) (p : Int) (sub : ByteArray) (hs : s.size ≤ 100000) (hsub : sub.size ≤ 100000) : Calls Try.prog 31 #[.string s, .int .i64 p, .string sub] w fun e w' => e = .returned (.int .i64 (findF s sub (pl s.size p) : Int)) ∧ w' = w := by
  have HP := ref_place_any w s p
  have hpl := pl_le s.size p
  generalize pl s.size p = a at HP hpl
  go_enter Try.func31, Try.ntmps31
  go_wp2_with fail
  refine HP.mono ?_
  rintro e w1 ⟨rfl, rfl⟩
  clear HP
  go_wp2
  go_loopw [7] (fun i wr => ∃ k : Nat, a ≤ k ∧ k ≤ s.size + 1 ∧ i = .int .i64 k ∧ wr = w1 ∧ Hid (∀ j, a ≤ j → j < k → st s j sub = false)) (fun i _ => s.size + 1 - (intOf i).toNat)
  case atStart => exact ⟨a, Nat.le_refl _, by omega, rfl, rfl, fun j h1 h2 => by omega⟩
  case round =>
    obtain ⟨k, ha, hk, rfl, rfl, hb⟩ := hrel
    by_cases hlt : k ≤ s.size
    · have HC := ref_starts_any wr s (k : Int) sub hs hsub
      rw [pl_of hlt] at HC
      cases hx : st s k sub with
      | false =>
        have hb2 : Hid (∀ j, a ≤ j → j < k + 1 → st s j sub = false) := fun j h1 hj => by
          by_cases hjk : j = k
          · rw [hjk]; exact hx
          · exact hb.out j h1 (by omega)
        rw [hx] at HC
        clear hx hb
        go_wp2_with fail
        refine HC.mono ?_
        rintro e w2 ⟨rfl, rfl⟩
        clear HC
        go_wp2
        go_roundw
        case rel => exact ⟨k + 1, by omega, by omega, by go_num, trivial, hb2⟩
        case measure => simp [intOf]; omega
      | true =>
        have hd : Hid (findF s sub a = k) := fs_eq ⟨ha, hlt, fun j h1 h2 => by exact hb.out j h1 h2, fun _ => by exact hx⟩
        rw [hx] at HC
        clear hx hb
        go_wp2_with fail
        refine HC.mono ?_
        rintro e w2 ⟨rfl, rfl⟩
        clear HC
        go_wp2
        go_ret
        exact ⟨by rw [hd.out]; rfl, rfl⟩
    · have hd : Hid (findF s sub a = s.size) := fs_eq ⟨hpl, Nat.le_refl _, fun j h1 h2 => by exact hb.out j h1 (by omega), fun h => by omega⟩
      clear hb
      go_wp2
      go_ret
      exact ⟨by rw [hd.out]; rfl, rfl⟩

end Go.Proofs.Ythdlmglnieomeaa
