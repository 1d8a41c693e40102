/-
  Within, Head and Names; same and known: the program and the document tell alike, of any name.
-/
import Derived.Test.YtpapdcnkbfmcpaaRef
namespace Go.Proofs.Ytpapdcnkbfmcpaa
open Go.RowKit

/-- No more of a text than m bytes. -/
theorem cut_any (w : World) (s : ByteArray) (m : Nat) (hm : m ≤ 1000) : Calls Try.prog 10 #[.string s, .int .i64 (m : Int)] w fun e w' => e = .returned (.string (if m < s.size then s.extract 0 m else s)) ∧ w' = w := by
  by_cases h : m < s.size
  · rw [if_pos h]
    go_enter Try.func10, Try.ntmps10
    go_wp2
    go_ret
    exact ⟨rfl, rfl⟩
  · rw [if_neg h]
    go_enter Try.func10, Try.ntmps10
    go_wp2
    go_ret
    exact ⟨rfl, rfl⟩

theorem cut_size (s : ByteArray) (m : Nat) : (if m < s.size then s.extract 0 m else s).size ≤ m := by
  split
  · simp
    omega
  · omega

/-- A number brought into the range from 0 to m. -/
def wi (n : Int) (m : Nat) : Nat := (if n.tmod ((m : Int) + 1) < 0 then n.tmod ((m : Int) + 1) + ((m : Int) + 1) else n.tmod ((m : Int) + 1)).toNat

theorem wi_le (n : Int) (m : Nat) : wi n m ≤ m := by
  have t1 : n.tmod ((m : Int) + 1) < (m : Int) + 1 := Int.tmod_lt_of_pos n (by omega)
  have t2 : -((m : Int) + 1) < n.tmod ((m : Int) + 1) := Int.lt_tmod_of_pos n (by omega)
  unfold wi
  split <;> omega

theorem within_any (w : World) (n : Int) (m : Nat) (hm : m ≤ 2000000) : Calls Try.prog 11 #[.int .i64 n, .int .i64 0, .int .i64 (m : Int)] w fun e w' => e = .returned (.int .i64 (wi n m : Int)) ∧ w' = w := by
  have t1 : n.tmod ((m : Int) + 1) < (m : Int) + 1 := Int.tmod_lt_of_pos n (by omega)
  have t2 : -((m : Int) + 1) < n.tmod ((m : Int) + 1) := Int.lt_tmod_of_pos n (by omega)
  by_cases h : n.tmod ((m : Int) + 1) < 0
  · have hw : (wi n m : Int) = n.tmod ((m : Int) + 1) + ((m : Int) + 1) := by
      unfold wi
      rw [if_pos h]
      omega
    rw [hw]
    clear hw
    go_enter Try.func11, Try.ntmps11
    go_wp2
    go_ret
    refine ⟨?_, rfl⟩
    show Ending.returned (.int .i64 _) = _
    congr 2
    omega
  · have hw : (wi n m : Int) = n.tmod ((m : Int) + 1) := by
      unfold wi
      rw [if_neg h]
      omega
    rw [hw]
    clear hw
    go_enter Try.func11, Try.ntmps11
    go_wp2
    go_ret
    refine ⟨?_, rfl⟩
    show Ending.returned (.int .i64 _) = _
    congr 2


def NAMES : List (List UInt8) := [[112], [98], [105], [97], [100, 105, 118], [116, 97, 98, 108, 101], [116, 114], [116, 100], [116, 98, 111, 100, 121], [108, 105], [117, 108], [115, 118, 103], [116, 101, 109, 112, 108, 97, 116, 101], [102, 111, 114, 109], [98, 117, 116, 116, 111, 110], [110, 111, 98, 114], [104, 49], [104, 50], [98, 114], [116, 105, 116, 108, 101], [116, 101, 120, 116, 97, 114, 101, 97], [115, 116, 121, 108, 101], [115, 99, 114, 105, 112, 116], [112, 114, 101], [111, 98, 106, 101, 99, 116], [100, 100], [100, 116], [98, 111, 100, 121], [104, 116, 109, 108], [104, 101, 97, 100], [102, 111, 114, 101, 105, 103, 110, 111, 98, 106, 101, 99, 116], [100, 101, 115, 99], [115, 112, 97, 110], [102, 111, 110, 116], [116, 104], [116, 104, 101, 97, 100], [105, 110, 112, 117, 116], [104, 114], [120, 109, 112], [112, 108, 97, 105, 110, 116, 101, 120, 116], [110, 111, 115, 99, 114, 105, 112, 116], [105, 109, 103], [105, 109, 97, 103, 101], [108, 105, 110, 107], [97, 100, 100, 114, 101, 115, 115], [97, 112, 112, 108, 101, 116], [101, 109], [115, 101, 108, 101, 99, 116]]
theorem names_len : (NAMES.map txt).length = 48 := by kernel_rfl
theorem names_size : ∀ x, x ∈ NAMES.map txt → x.size ≤ 13 := by decide +kernel

set_option maxRecDepth 100000 in
set_option maxHeartbeats 1000000 in
/-- Names: one of some. -/
theorem names_any (w : World) (i : Int) : Calls Try.prog 8 #[.int .i64 i] w fun e w' => ∃ x, e = .returned (.string x) ∧ x.size ≤ 13 ∧ Kp [] w w' := by
  have HR : Rb (w.alloc (.cells (tx (NAMES.map txt)).toArray 9)) (some ⟨w.heap.size, 0, none⟩) 48 48 (tx (NAMES.map txt)) := rb_lit w 9 _ _ 48 rfl (by kernel_rfl) (by omega)
  have HK : Kp [] w (w.alloc (.cells (tx (NAMES.map txt)).toArray 9)) := (Kp.refl _ _).alloc _
  go_enter Try.func8, Try.ntmps8
  go_upto_region 1 with fail
  refine wp_region_lit ?_
  refine build_texts rfl 24 9 48 _ rfl (NAMES.map txt) Try.underlying24 (by kernel_rfl) (by kernel_rfl) (by kernel_rfl) (by omega) (by omega) (by kernel_rfl) ?_
  generalize w.alloc (.cells (tx (NAMES.map txt)).toArray 9) = w1 at HR HK
  generalize some (⟨w.heap.size, 0, none⟩ : Addr) = a1 at HR
  have hj : wi i 1048576 % 48 < 48 := Nat.mod_lt _ (by omega)
  obtain ⟨b1, o1, rfl, h1⟩ := HR.tx_at (wi i 1048576 % 48) (by rw [names_len]; exact hj)
  have hx := names_size _ (List.getElem_mem (l := NAMES.map txt) (n := wi i 1048576 % 48) (by rw [names_len]; exact hj))
  generalize (NAMES.map txt)[wi i 1048576 % 48]'(by rw [names_len]; exact hj) = x at h1 hx
  have hwi := wi_le i 1048576
  clear HR
  go_wp2_with fail
  refine (within_any _ i 1048576 (by omega)).mono ?_
  rintro e w2 ⟨rfl, rfl⟩
  generalize wi i 1048576 = n at h1 hj hwi
  go_wp2
  go_ret
  exact ⟨_, rfl, hx, HK⟩

set_option maxHeartbeats 4000000 in
/-- same: of any namespace and any name. -/
theorem same_any (w : World) (ns : Int) (s : ByteArray) (hs : s.size ≤ 1000) : Calls Try.prog 7 #[.int .i64 ns, .string s] w fun e w' => e = .returned (.bool true) ∧ Kp [] w w' := by
  have A0 := fun w => void_any w s
  have B0 := fun w => ref_void_any w s
  generalize has VOID s = v0 at A0 B0
  have A1 := fun w => form_any w s
  have B1 := fun w => ref_form_any w s
  generalize has FORM s = v1 at A1 B1
  have A2 := fun w => head_any w s
  have B2 := fun w => ref_head_any w s
  generalize has HEAD s = v2 at A2 B2
  have A3 := fun w => block_any w s
  have B3 := fun w => ref_block_any w s
  generalize has BLOCK s = v3 at A3 B3
  have A4 := fun w => special_any w ns s
  have B4 := fun w => ref_special_any w ns s
  generalize special ns s = v4 at A4 B4
  have A5 := fun w => impl_any w s
  have B5 := fun w => ref_impl_any w s
  generalize has IMPL s = v5 at A5 B5
  have A6 := fun w => thorough_any w s
  have B6 := fun w => ref_thorough_any w s
  generalize thorough s = v6 at A6 B6
  have A7 := fun w => bound_any w ns s
  have B7 := fun w => ref_bound_any w ns s
  generalize bound ns s = v7 at A7 B7
  have A8 := fun w => point_any w ns s
  have B8 := fun w => ref_point_any w ns s
  generalize point ns s = v8 at A8 B8
  have A9 := fun w => breakout_any w s
  have B9 := fun w => ref_breakout_any w s
  generalize breakout s = v9 at A9 B9
  have A10 := fun w => fix_any w s (by omega)
  have B10 := fun w => ref_fix_any w s
  generalize fix s = v10 at A10 B10
  have A11 := fun w => raw_any w s true
  have B11 := fun w => ref_raw_any w s true
  generalize raw s true = v11 at A11 B11
  have A12 := fun w => raw_any w s false
  have B12 := fun w => ref_raw_any w s false
  generalize raw s false = v12 at A12 B12
  clear hs
  have k0 := Kp.refl [] w
  go_enter Try.func7, Try.ntmps7
  go_upto_region 0 with fail
  try dsimp only [List.append]
  go_wp2_with fail
  refine (A0 _).mono ?_
  rintro e w99 ⟨rfl, rfl⟩
  clear A0
  go_wp2_with fail
  refine (from_back (B0 _) k0).mono ?_
  rintro e w1 ⟨rfl, k1⟩
  clear B0 k0
  go_wp2_with fail
  refine (A1 _).mono ?_
  rintro e w99 ⟨rfl, rfl⟩
  clear A1
  go_wp2_with fail
  refine (from_back (B1 _) k1).mono ?_
  rintro e w2 ⟨rfl, k2⟩
  clear B1 k1
  go_wp2_with fail
  refine (A2 _).mono ?_
  rintro e w99 ⟨rfl, rfl⟩
  clear A2
  go_wp2_with fail
  refine (from_back (B2 _) k2).mono ?_
  rintro e w3 ⟨rfl, k3⟩
  clear B2 k2
  go_wp2_with fail
  refine (A3 _).mono ?_
  rintro e w99 ⟨rfl, rfl⟩
  clear A3
  go_wp2_with fail
  refine (from_back (B3 _) k3).mono ?_
  rintro e w4 ⟨rfl, k4⟩
  clear B3 k3
  go_wp2_with fail
  refine (A4 _).mono ?_
  rintro e w99 ⟨rfl, rfl⟩
  clear A4
  go_wp2_with fail
  refine (from_back (B4 _) k4).mono ?_
  rintro e w5 ⟨rfl, k5⟩
  clear B4 k4
  go_wp2_with fail
  refine (A5 _).mono ?_
  rintro e w99 ⟨rfl, rfl⟩
  clear A5
  go_wp2_with fail
  refine (from_back (B5 _) k5).mono ?_
  rintro e w6 ⟨rfl, k6⟩
  clear B5 k5
  go_wp2_with fail
  refine (A6 _).mono ?_
  rintro e w99 ⟨rfl, rfl⟩
  clear A6
  go_wp2_with fail
  refine (from_back (B6 _) k6).mono ?_
  rintro e w7 ⟨rfl, k7⟩
  clear B6 k6
  go_wp2_with fail
  refine (A7 _).mono ?_
  rintro e w99 ⟨rfl, rfl⟩
  clear A7
  go_wp2_with fail
  refine (from_back (B7 _) k7).mono ?_
  rintro e w8 ⟨rfl, k8⟩
  clear B7 k7
  go_wp2_with fail
  refine (A8 _).mono ?_
  rintro e w99 ⟨rfl, rfl⟩
  clear A8
  go_wp2_with fail
  refine (from_back (B8 _) k8).mono ?_
  rintro e w9 ⟨rfl, k9⟩
  clear B8 k8
  go_wp2_with fail
  refine (A9 _).mono ?_
  rintro e w99 ⟨rfl, rfl⟩
  clear A9
  go_wp2_with fail
  refine (from_back (B9 _) k9).mono ?_
  rintro e w10 ⟨rfl, k10⟩
  clear B9 k9
  go_wp2_with fail
  refine (from_back (A10 _) k10).mono ?_
  rintro e w11 ⟨rfl, k11⟩
  clear A10 k10
  go_wp2_with fail
  refine (from_back (B10 _) k11).mono ?_
  rintro e w12 ⟨rfl, k12⟩
  clear B10 k11
  go_wp2_with fail
  refine (A11 _).mono ?_
  rintro e w99 ⟨rfl, rfl⟩
  clear A11
  go_wp2_with fail
  refine (B11 _).mono ?_
  rintro e w99 ⟨rfl, rfl⟩
  clear B11
  go_wp2_with fail
  refine (A12 _).mono ?_
  rintro e w99 ⟨rfl, rfl⟩
  clear A12
  go_wp2_with fail
  refine (B12 _).mono ?_
  rintro e w99 ⟨rfl, rfl⟩
  clear B12
  go_wp2
  go_ret
  exact ⟨rfl, k12⟩

set_option maxHeartbeats 1000000 in
/-- known. -/
theorem known_any (w : World) : Calls Try.prog 9 #[] w fun e w' => e = .returned (.bool true) ∧ w' = w := by
  have H1 := special_any w 1 ⟨#[112]⟩
  have H2 := special_any w 2 ⟨#[116, 105, 116, 108, 101]⟩
  have H3 := void_any w ⟨#[107, 101, 121, 103, 101, 110]⟩
  have H4 := bound_any w 2 ⟨#[116, 97, 98, 108, 101]⟩
  rw [show special 1 ⟨#[112]⟩ = true by kernel_rfl] at H1
  rw [show special 2 ⟨#[116, 105, 116, 108, 101]⟩ = true by kernel_rfl] at H2
  rw [show has VOID ⟨#[107, 101, 121, 103, 101, 110]⟩ = false by kernel_rfl] at H3
  rw [show bound 2 ⟨#[116, 97, 98, 108, 101]⟩ = false by kernel_rfl] at H4
  go_enter Try.func9, Try.ntmps9
  go_wp2_with fail
  refine H1.mono ?_
  rintro e w1 ⟨rfl, rfl⟩
  go_wp2_with fail
  refine H2.mono ?_
  rintro e w1 ⟨rfl, rfl⟩
  go_wp2_with fail
  refine H3.mono ?_
  rintro e w1 ⟨rfl, rfl⟩
  go_wp2_with fail
  refine H4.mono ?_
  rintro e w1 ⟨rfl, rfl⟩
  clear H1 H2 H3 H4
  go_wp2
  go_ret
  exact ⟨rfl, rfl⟩

end Go.Proofs.Ytpapdcnkbfmcpaa
