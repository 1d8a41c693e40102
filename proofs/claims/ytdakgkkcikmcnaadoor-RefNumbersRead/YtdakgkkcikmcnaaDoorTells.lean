/-
  The walk of RefTells: whatever it is given, it answers true, and leaves what was there as it was.
-/
import Derived.Test.YtdakgkkcikmcnaaDoorNumbers
namespace Go.Proofs.YtdakgkkcikmcnaaDoor
open Go.RowKit Utf
set_option linter.unusedVariables false

/-- Within, from 0 on. -/
theorem within_zero (w : World) (n : Int) (m : Nat) (hm : m ≤ 1099511627776) : Calls Tryd.prog 12 #[.int .i64 n, .int .i64 0, .int .i64 (m : Int)] w fun e w' => e = .returned (.int .i64 (wi n m : Int)) ∧ w' = w := by
  have h := within_any w n 0 m (by omega) hm
  rw [Nat.zero_add, Nat.sub_zero] at h
  exact h

theorem lit_cat (t x : ByteArray) (n : Nat) (h : t.size ≤ n) : (t ++ x).size ≤ n + x.size := by rw [cat_size]; omega

set_option maxRecDepth 100000 in
set_option maxHeartbeats 1000000 in
/-- piece: some text of no more than twenty bytes. -/
theorem piece_any (w : World) (n : Int) : Calls Tryd.prog 11 #[.int .i64 n] w fun e w' => ∃ t, e = .returned (.string t) ∧ t.size ≤ 20 ∧ Kp [] w w' := by
  have hk := wi_le n 1048576
  have HW := fun W => within_zero W n 1048576 (by omega)
  generalize wi n 1048576 = k at hk HW
  have h8 : k % 8 = 0 ∨ k % 8 = 1 ∨ k % 8 = 2 ∨ k % 8 = 3 ∨ k % 8 = 4 ∨ k % 8 = 5 ∨ k % 8 = 6 ∨ k % 8 = 7 := by omega
  go_enter Tryd.func11, Tryd.ntmps11
  go_wp2_with fail
  refine (ref_all_any _).mono ?_
  rintro e w1 ⟨ao, m, c, rfl, m1⟩
  obtain rfl : m = 51 := by
    have := m1.rb.len
    rw [tx_len, nm_len] at this
    exact this
  have hj : k / 8 % 51 < 51 := Nat.mod_lt _ (by omega)
  obtain ⟨b1, o1, rfl, h1⟩ := m1.rb.tx_at (k / 8 % 51) (by rw [nm_len]; exact hj)
  have k1 := m1.2.1
  have hx := (nm_size (NM[k / 8 % 51]'(by rw [nm_len]; exact hj)) (List.getElem_mem _)).2
  generalize NM[k / 8 % 51]'(by rw [nm_len]; exact hj) = x at h1 hx
  clear m1
  go_wp2_with fail
  refine (HW _).mono ?_
  rintro e w2 ⟨rfl, rfl⟩
  clear HW
  rcases h8 with h8 | h8 | h8 | h8 | h8 | h8 | h8 | h8
  · go_wp2_with fail
    have i7 : ¬ 9223372036854775807 < 1 + x.size := by omega
    go_wp2
    go_ret
    exact ⟨_, rfl, Nat.le_trans (lit_cat _ _ 1 (by decide)) (by omega), k1⟩
  · go_upto_region 7 with fail
    have i7 : ∀ i, ¬ 9223372036854775807 < 2 + (Utf8.encode i).size := fun i => by have := encode_size_le i; omega
    go_wp2
    go_ret
    exact ⟨_, rfl, Nat.le_trans (lit_cat _ _ 2 (by decide)) (Nat.le_trans (Nat.add_le_add_left (encode_size_le _) 2) (by omega)), k1⟩
  · go_upto_region 9 with fail
    have i7 : ∀ i, ¬ 9223372036854775807 < 3 + (Utf8.encode i).size := fun i => by have := encode_size_le i; omega
    go_wp2
    go_ret
    exact ⟨_, rfl, Nat.le_trans (lit_cat _ _ 3 (by decide)) (Nat.le_trans (Nat.add_le_add_left (encode_size_le _) 3) (by omega)), k1⟩
  · go_wp2
    go_ret
    exact ⟨_, rfl, by decide, k1⟩
  · go_wp2
    go_ret
    exact ⟨_, rfl, by decide, k1⟩
  · go_wp2
    go_ret
    exact ⟨_, rfl, by decide, k1⟩
  · go_wp2
    go_ret
    exact ⟨_, rfl, Nat.le_trans (encode_size_le _) (by omega), k1⟩
  · go_wp2
    go_ret
    exact ⟨_, rfl, Nat.le_trans (encode_size_le _) (by omega), k1⟩

/-- Ints that came in: what stands at each place. -/
def Is (w : World) (ao : Option Addr) (n c : Nat) (F : Nat → Int) : Prop := n ≤ c ∧ ∀ i, i < n → ∃ b off, ao = some ⟨b, off, none⟩ ∧ w.cell? ⟨b, off + i, none⟩ = some (.int .i64 (F i))
theorem Is.kept {w w' : World} {ao : Option Addr} {n c : Nat} {F : Nat → Int} (h : Is w ao n c F) (k : Kp [] w w') : Is w' ao n c F :=
  ⟨h.1, fun i hi => by
    obtain ⟨b, off, h1, h2⟩ := h.2 i hi
    exact ⟨b, off, h1, by rw [k.cell (a := ⟨b, off + i, none⟩) (block_lt_of_cell h2) (by simp)]; exact h2⟩⟩

set_option maxRecDepth 100000 in
set_option maxHeartbeats 1000000 in
theorem tells_any (w : World) (hn : Nm w) (hi : In w) (s0 : ByteArray) (ao : Option Addr) (n c : Nat) (F : Nat → Int) (hl : Is w ao n c F) (a : Int) (attr : Bool) :
    Calls Tryd.prog 4 #[.string s0, .slice ao n c, .int .i64 a, .bool attr] w fun e w' => e = .returned (.bool true) ∧ Kp [] w w' := by
  have hsz := cut_size s0 60
  go_enter Tryd.func4, Tryd.ntmps4
  go_wp2_with fail
  refine (cut_any _ s0 60 (by omega)).mono ?_
  rintro e w' ⟨rfl, rfl⟩
  generalize (if 60 < s0.size then s0.extract 0 60 else s0) = s at hsz ⊢
  go_wp2
  go_loopw [9, 10] (fun x i wr => ∃ (k : Nat) (t : ByteArray), i = .int .i64 (k : Int) ∧ x = .string t ∧ k ≤ n ∧ k ≤ 20 ∧ t.size ≤ 60 + 20 * k ∧ Kp [] w' wr) (fun _ i _ => 20 - (intOf i).toNat)
  case atStart => exact ⟨0, s, rfl, rfl, by omega, by omega, by omega, Kp.refl _ _⟩
  case round =>
    obtain ⟨k, t, rfl, rfl, hk1, hk2, ht, kr⟩ := hrel
    by_cases h1 : k < n
    · by_cases h2 : k < 20
      · obtain ⟨b, o, rfl, hc⟩ := (hl.kept kr).2 k h1
        generalize F k = y at hc
        go_wp2_with fail
        refine (piece_any _ y).mono ?_
        rintro e w2 ⟨p, rfl, hp, k2⟩
        have i7 : ¬ 9223372036854775807 < t.size + p.size := by omega
        go_wp2
        go_roundw
        case rel => exact ⟨k + 1, t ++ p, by go_num, rfl, by omega, by omega, by rw [cat_size]; omega, kr.trans k2 (fun x hx => by simp at hx)⟩
        case measure => simp [intOf]; omega
      · have hz : t.size ≤ 460 := by omega
        have hz2 : (t.size : Int) ≤ 460 := by omega
        have S1 := same_any _ (hn.kept kr) (hi.kept kr) s a attr (by omega)
        have W1 := fun W => within_zero W a t.size (by omega)
        generalize (wi a t.size : Int) = a2 at W1
        have S2 := fun W (kk : Kp [] w' W) => same_any W (hn.kept kk) (hi.kept kk) t a2 attr (by omega)
        have S3 := fun W (kk : Kp [] w' W) => same_any W (hn.kept kk) (hi.kept kk) t 0 (!attr) (by omega)
        have S4 := fun W (kk : Kp [] w' W) => known_any W (hn.kept kk) (hi.kept kk)
        clear hl hn hi
        go_wp2_with fail
        refine (from_back S1 kr).mono ?_
        rintro e w1 ⟨rfl, k1⟩
        clear S1
        go_wp2_with fail
        refine (W1 _).mono ?_
        rintro e w2 ⟨rfl, rfl⟩
        clear W1
        go_wp2_with fail
        refine (from_back (S2 _ k1) k1).mono ?_
        rintro e w3 ⟨rfl, k3⟩
        clear S2 k1
        go_wp2_with fail
        refine (from_back (S3 _ k3) k3).mono ?_
        rintro e w4 ⟨rfl, k4⟩
        clear S3 k3
        go_wp2_with fail
        refine (from_back (S4 _ k4) k4).mono ?_
        rintro e w5 ⟨rfl, k5⟩
        clear S4 k4
        go_wp2
        go_ret
        exact ⟨rfl, k5⟩
    · have hz : t.size ≤ 460 := by omega
      have hz2 : (t.size : Int) ≤ 460 := by omega
      have S1 := same_any _ (hn.kept kr) (hi.kept kr) s a attr (by omega)
      have W1 := fun W => within_zero W a t.size (by omega)
      generalize (wi a t.size : Int) = a2 at W1
      have S2 := fun W (kk : Kp [] w' W) => same_any W (hn.kept kk) (hi.kept kk) t a2 attr (by omega)
      have S3 := fun W (kk : Kp [] w' W) => same_any W (hn.kept kk) (hi.kept kk) t 0 (!attr) (by omega)
      have S4 := fun W (kk : Kp [] w' W) => known_any W (hn.kept kk) (hi.kept kk)
      clear hl hn hi
      go_wp2_with fail
      refine (from_back S1 kr).mono ?_
      rintro e w1 ⟨rfl, k1⟩
      clear S1
      go_wp2_with fail
      refine (W1 _).mono ?_
      rintro e w2 ⟨rfl, rfl⟩
      clear W1
      go_wp2_with fail
      refine (from_back (S2 _ k1) k1).mono ?_
      rintro e w3 ⟨rfl, k3⟩
      clear S2 k1
      go_wp2_with fail
      refine (from_back (S3 _ k3) k3).mono ?_
      rintro e w4 ⟨rfl, k4⟩
      clear S3 k3
      go_wp2_with fail
      refine (from_back (S4 _ k4) k4).mono ?_
      rintro e w5 ⟨rfl, k5⟩
      clear S4 k4
      go_wp2
      go_ret
      exact ⟨rfl, k5⟩

end Go.Proofs.YtdakgkkcikmcnaaDoor
