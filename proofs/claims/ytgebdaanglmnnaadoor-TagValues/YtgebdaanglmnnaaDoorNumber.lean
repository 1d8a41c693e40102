/-
  Number, the program's and the document's, of any number.
-/
import Derived.Test.YtgebdaanglmnnaaDoorNames
import Derived.Great.BuildSlice
import Derived.Deep.Cut
namespace Go.Proofs.YtgebdaanglmnnaaDoor
open Go.RowKit Utf

/-- Runes, as values. -/
def r32 (l : List Int) : List Value := l.map (Value.int .i32)
theorem r32_len (l : List Int) : (r32 l).length = l.length := by simp [r32]

theorem Rb.r32_at {w : World} {ao : Option Addr} {n c : Nat} {l : List Int} (h : Rb w ao n c (r32 l)) (k : Nat) (hk : k < l.length) : ∃ b off, ao = some ⟨b, off, none⟩ ∧ w.cell? ⟨b, off + k, none⟩ = some (Value.int .i32 (l.getD k 0)) := by
  have hl := h.len
  rw [r32_len] at hl
  obtain ⟨b, off, h1, h2⟩ := h.at' k (by omega)
  exact ⟨b, off, h1, by rw [h2]; simp [r32, hk]⟩

/-- What stands instead of the numbers from 128 to 159 lies where the program's variable leads. -/
def In (w : World) : Prop := ∃ ao c, w.cell? ⟨0, 0, none⟩ = some (.slice ao 32 c) ∧ Rb w ao 32 c (r32 INS)

theorem In.kept {w w' : World} (h : In w) (k : Kp [] w w') : In w' := by
  obtain ⟨ao, c, h1, h2⟩ := h
  exact ⟨ao, c, by rw [k.cell (block_lt_of_cell h1) (by simp)]; exact h1, h2.kept k⟩

/-- A number of 64 bits. -/
def int64 (n : Int) : Prop := -9223372036854775808 ≤ n ∧ n ≤ 9223372036854775807

/-- No number of a character. -/
abbrev odd (n : Int) : Prop := n ≤ 0 ∨ 1114111 < n ∨ (55296 ≤ n ∧ n ≤ 57343)

/-- The rune that a number stands for. -/
def rune (n : Int) : Int := if odd n then 65533 else if 128 ≤ n ∧ n ≤ 159 then INS.getD (n - 128).toNat 0 else n

/-- What a number stands for. -/
def num (n : Int) : ByteArray := Utf8.encode (rune n)

theorem num_odd {n : Int} (h : odd n) : num n = ⟨#[239, 191, 189]⟩ := by
  unfold num rune
  rw [if_pos h]
  kernel_rfl
theorem num_high {n : Int} (h0 : ¬ odd n) (h : 128 ≤ n ∧ n ≤ 159) : num n = Utf8.encode (INS.getD (n - 128).toNat 0) := by
  unfold num rune
  rw [if_neg h0, if_pos h]
theorem num_plain {n : Int} (h0 : ¬ odd n) (h : ¬ (128 ≤ n ∧ n ≤ 159)) : num n = Utf8.encode n := by
  unfold num rune
  rw [if_neg h0, if_neg h]

set_option maxHeartbeats 1000000 in
theorem number_any (w : World) (hi : In w) (n : Int) (hn : int64 n) : Calls Tryd.prog 82 #[.int .i64 n] w fun e w' => e = .returned (.string (num n)) ∧ w' = w := by
  obtain ⟨hn1, hn2⟩ := hn
  by_cases h1 : n ≤ 0
  · rw [num_odd (Or.inl h1)]
    clear hi
    go_enter Tryd.func82, Tryd.ntmps82
    go_wp2
    go_ret
    exact ⟨rfl, rfl⟩
  by_cases h2 : 1114111 < n
  · rw [num_odd (Or.inr (Or.inl h2))]
    clear hi
    go_enter Tryd.func82, Tryd.ntmps82
    go_wp2
    go_ret
    exact ⟨rfl, rfl⟩
  by_cases h3 : 55296 ≤ n ∧ n ≤ 57343
  · rw [num_odd (Or.inr (Or.inr h3))]
    obtain ⟨h4, h5⟩ := h3
    clear hi
    go_enter Tryd.func82, Tryd.ntmps82
    go_wp2
    go_ret
    exact ⟨rfl, rfl⟩
  have h0 : ¬ odd n := by unfold odd; omega
  by_cases h4 : 128 ≤ n ∧ n ≤ 159
  · rw [num_high h0 h4]
    obtain ⟨ao, c, hc, hr⟩ := hi
    obtain ⟨k, hk, rfl⟩ : ∃ k : Nat, k < 32 ∧ n = 128 + (k : Int) := ⟨(n - 128).toNat, by omega, by omega⟩
    obtain ⟨b, off, rfl, h5⟩ := hr.r32_at k (by rw [ins_len]; exact hk)
    rw [show (128 + (k : Int) - 128).toNat = k by omega]
    generalize INS.getD k 0 = r at h5
    have h6 : (128 : Int) + k - 128 = k := by omega
    have h7 : ¬ 55296 ≤ (128 : Int) + k := by omega
    clear h0 h3 hr
    go_enter Tryd.func82, Tryd.ntmps82
    go_wp2
    go_ret
    exact ⟨rfl, rfl⟩
  · rw [num_plain h0 h4]
    clear hi h0
    go_enter Tryd.func82, Tryd.ntmps82
    go_wp2
    all_goals go_ret
    all_goals exact ⟨rfl, rfl⟩

theorem inz_num {k : Nat} (hk : k < 32) : num (128 + (k : Int)) = Utf8.encode (if INZ.getD k 0 = 0 then 128 + (k : Int) else INZ.getD k 0) := by
  have h := ins_inz k hk
  rw [num_high (by unfold odd; omega) (by omega), show (128 + (k : Int) - 128).toNat = k by omega, List.getD_eq_getElem?_getD, h]
  rfl

set_option maxRecDepth 100000 in
set_option maxHeartbeats 1000000 in
theorem ref_high (w : World) (k : Nat) (hk : k < 32) (r : Int) (hrr : r = INZ.getD k 0) (t : ByteArray) (h0 : r = 0 → t = Utf8.encode (128 + (k : Int))) (h1 : r ≠ 0 → t = Utf8.encode r) : Calls Tryd.prog 65 #[.int .i64 (128 + (k : Int))] w fun e w' => e = .returned (.string t) ∧ Kp [] w w' := by
  have hr : Rb (w.alloc (.cells (INZ.map (Value.int .i32)).toArray 21)) (some ⟨w.heap.size, 0, none⟩) 32 32 (r32 INZ) := rb_lit w 21 _ (r32 INZ) 32 rfl (by kernel_rfl) (by omega)
  have kk : Kp [] w (w.alloc (.cells (INZ.map (Value.int .i32)).toArray 21)) := (Kp.refl _ _).alloc _
  obtain ⟨b, off, ha, h5⟩ := hr.r32_at k (by rw [inz_len]; exact hk)
  rw [← hrr] at h5
  have h6 : (128 : Int) + k - 128 = k := by omega
  have h7 : ¬ 55296 ≤ (128 : Int) + k := by omega
  clear hr hrr
  by_cases hz : r = 0
  · rw [h0 hz]
    clear h0 h1
    subst hz
    go_enter Tryd.func65, Tryd.ntmps65
    go_upto_region 4 with fail
    refine wp_region_lit ?_
    refine wpList_buildFlat rfl 93 21 32 _ rfl .i32 INZ Tryd.underlying93 (by kernel_rfl) (by kernel_rfl) (by kernel_rfl) (by omega) (by omega) (by kernel_rfl) ?_
    generalize w.alloc (.cells (INZ.map (Value.int .i32)).toArray 21) = w1 at h5 kk
    rw [ha]
    clear ha
    go_wp2
    go_ret
    exact ⟨rfl, kk⟩
  · rw [h1 hz]
    clear h0 h1
    have hz' : (r != 0) = true := by simpa using hz
    clear hz
    go_enter Tryd.func65, Tryd.ntmps65
    go_upto_region 4 with fail
    refine wp_region_lit ?_
    refine wpList_buildFlat rfl 93 21 32 _ rfl .i32 INZ Tryd.underlying93 (by kernel_rfl) (by kernel_rfl) (by kernel_rfl) (by omega) (by omega) (by kernel_rfl) ?_
    generalize w.alloc (.cells (INZ.map (Value.int .i32)).toArray 21) = w1 at h5 kk
    rw [ha]
    clear ha
    go_wp2
    go_ret
    exact ⟨rfl, kk⟩

set_option maxHeartbeats 1000000 in
theorem ref_number_any (w : World) (n : Int) (hn : int64 n) : Calls Tryd.prog 65 #[.int .i64 n] w fun e w' => e = .returned (.string (num n)) ∧ Kp [] w w' := by
  obtain ⟨hn1, hn2⟩ := hn
  by_cases h1 : n ≤ 0
  · rw [num_odd (Or.inl h1)]
    go_enter Tryd.func65, Tryd.ntmps65
    go_wp2
    go_ret
    exact ⟨rfl, Kp.refl _ _⟩
  by_cases h2 : 1114111 < n
  · rw [num_odd (Or.inr (Or.inl h2))]
    go_enter Tryd.func65, Tryd.ntmps65
    go_wp2
    go_ret
    exact ⟨rfl, Kp.refl _ _⟩
  by_cases h3 : 55296 ≤ n ∧ n ≤ 57343
  · rw [num_odd (Or.inr (Or.inr h3))]
    obtain ⟨h4, h5⟩ := h3
    go_enter Tryd.func65, Tryd.ntmps65
    go_wp2
    go_ret
    exact ⟨rfl, Kp.refl _ _⟩
  have h0 : ¬ odd n := by unfold odd; omega
  by_cases h4 : 128 ≤ n ∧ n ≤ 159
  · obtain ⟨k, hk, rfl⟩ : ∃ k : Nat, k < 32 ∧ n = 128 + (k : Int) := ⟨(n - 128).toNat, by omega, by omega⟩
    exact ref_high w k hk _ rfl _ (fun h => by rw [inz_num hk, if_pos h]) (fun h => by rw [inz_num hk, if_neg h])
  · rw [num_plain h0 h4]
    clear h0
    go_enter Tryd.func65, Tryd.ntmps65
    go_wp2
    all_goals (first | omega | go_ret)
    all_goals exact ⟨rfl, Kp.refl _ _⟩

end Go.Proofs.YtgebdaanglmnnaaDoor
