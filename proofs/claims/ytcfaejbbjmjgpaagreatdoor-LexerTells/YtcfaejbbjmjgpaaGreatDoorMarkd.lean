/-
  Names, Piece and Markup of the laws' own book: texts of no more than so many bytes.
-/
import Derived.Test.YtcfaejbbjmjgpaaGreatDoorKnown
import Derived.Test.YtcfaejbbjmjgpaaGreatDoorRefNamed
import Derived.Deep.Cut
namespace Go.Proofs.YtcfaejbbjmjgpaaGreatDoor
open Go.RowKit Utf
set_option linter.unusedVariables false

/-- The names. -/
def NMS : List ByteArray := [⟨#[112]⟩, ⟨#[98]⟩, ⟨#[105]⟩, ⟨#[97]⟩, ⟨#[100, 105, 118]⟩, ⟨#[116, 97, 98, 108, 101]⟩, ⟨#[116, 114]⟩, ⟨#[116, 100]⟩, ⟨#[116, 98, 111, 100, 121]⟩, ⟨#[108, 105]⟩, ⟨#[117, 108]⟩, ⟨#[115, 118, 103]⟩, ⟨#[116, 101, 109, 112, 108, 97, 116, 101]⟩, ⟨#[102, 111, 114, 109]⟩, ⟨#[98, 117, 116, 116, 111, 110]⟩, ⟨#[110, 111, 98, 114]⟩, ⟨#[104, 49]⟩, ⟨#[104, 50]⟩, ⟨#[98, 114]⟩, ⟨#[116, 105, 116, 108, 101]⟩, ⟨#[116, 101, 120, 116, 97, 114, 101, 97]⟩, ⟨#[115, 116, 121, 108, 101]⟩, ⟨#[115, 99, 114, 105, 112, 116]⟩, ⟨#[112, 114, 101]⟩, ⟨#[111, 98, 106, 101, 99, 116]⟩, ⟨#[100, 100]⟩, ⟨#[100, 116]⟩, ⟨#[98, 111, 100, 121]⟩, ⟨#[104, 116, 109, 108]⟩, ⟨#[104, 101, 97, 100]⟩, ⟨#[102, 111, 114, 101, 105, 103, 110, 111, 98, 106, 101, 99, 116]⟩, ⟨#[100, 101, 115, 99]⟩, ⟨#[115, 112, 97, 110]⟩, ⟨#[102, 111, 110, 116]⟩, ⟨#[116, 104]⟩, ⟨#[116, 104, 101, 97, 100]⟩, ⟨#[105, 110, 112, 117, 116]⟩, ⟨#[104, 114]⟩, ⟨#[120, 109, 112]⟩, ⟨#[112, 108, 97, 105, 110, 116, 101, 120, 116]⟩, ⟨#[110, 111, 115, 99, 114, 105, 112, 116]⟩, ⟨#[105, 109, 103]⟩, ⟨#[105, 109, 97, 103, 101]⟩, ⟨#[108, 105, 110, 107]⟩, ⟨#[97, 100, 100, 114, 101, 115, 115]⟩, ⟨#[97, 112, 112, 108, 101, 116]⟩, ⟨#[101, 109]⟩, ⟨#[115, 101, 108, 101, 99, 116]⟩]
theorem nms_len : NMS.length = 48 := by kernel_rfl
theorem nms_size : ∀ x, x ∈ NMS → x.size ≤ 13 := by decide +kernel

set_option maxHeartbeats 1000000 in
set_option maxRecDepth 100000 in
theorem names_any (w : World) (n : Int) : Calls Tryz.prog 35 #[.int .i64 n] w fun e w' => ∃ t, e = .returned (.string t) ∧ t.size ≤ 13 ∧ Kp [] w w' := by
  have hk := wi_le n 1048576
  have HW := fun W => within_zero W n 1048576 (by omega)
  generalize wi n 1048576 = k at hk HW
  have HR : Rb (w.alloc (.cells (tx NMS).toArray 9)) (some ⟨w.heap.size, 0, none⟩) 48 48 (tx NMS) := rb_lit w 9 _ (tx NMS) 48 rfl (by kernel_rfl) (by omega)
  have k1 : Kp [] w (w.alloc (.cells (tx NMS).toArray 9)) := (Kp.refl _ _).alloc _
  have hj : k % 48 < 48 := Nat.mod_lt _ (by omega)
  go_enter Tryz.func35, Tryz.ntmps35
  go_upto_region 1 with fail
  refine wp_region_lit ?_
  refine build_texts rfl 22 9 48 _ rfl NMS Tryz.underlying22 (by kernel_rfl) (by kernel_rfl) (by kernel_rfl) (by omega) (by omega) (by kernel_rfl) ?_
  obtain ⟨b1, o1, e1, h1⟩ := HR.tx_at (k % 48) (by rw [nms_len]; exact hj)
  generalize w.alloc (.cells (tx NMS).toArray 9) = W at HR k1 h1 ⊢
  generalize some (⟨w.heap.size, 0, none⟩ : Addr) = ta at HR e1 ⊢
  subst e1
  have hx := nms_size (NMS[k % 48]'(by rw [nms_len]; exact hj)) (List.getElem_mem _)
  generalize NMS[k % 48]'(by rw [nms_len]; exact hj) = x at h1 hx
  clear HR
  go_wp2_with fail
  refine (HW _).mono ?_
  rintro e w2 ⟨rfl, rfl⟩
  clear HW
  go_wp2
  go_ret
  exact ⟨_, rfl, hx, k1⟩

theorem sum_le {a b : ByteArray} {m n k : Nat} (ha : a.size ≤ m) (hb : b.size ≤ n) (h : m + n ≤ k) : (a ++ b).size ≤ k := by rw [cat_size]; omega

set_option maxHeartbeats 1000000 in
set_option maxRecDepth 100000 in
theorem piece_any (w : World) (n k : Int) : Calls Tryz.prog 23 #[.int .i64 n, .int .i64 k] w fun e w' => ∃ t, e = .returned (.string t) ∧ t.size ≤ 40 ∧ Kp [] w w' := by
  have HW := fun W => within_zero W n 1048576 (by omega)
  have hk := wi_le n 1048576
  generalize wi n 1048576 = j at hk HW
  have HN := names_any w k
  obtain ⟨m, hm1, hm2, hm3⟩ : ∃ m : Nat, (j : Int).tmod 16 = m ∧ j % 16 = m ∧ m < 16 := ⟨j % 16, by have := Int.tmod_eq_emod_of_nonneg (a := (j : Int)) (b := 16) (by omega); omega, rfl, Nat.mod_lt _ (by omega)⟩
  go_enter Tryz.func23, Tryz.ntmps23
  go_wp2_with fail
  refine HN.mono ?_
  rintro e w1 ⟨x, rfl, hx, k1⟩
  clear HN
  have i1 : ¬ 9223372036854775807 < 1 + x.size := by omega
  have i2 : ¬ 9223372036854775807 < 2 + x.size := by omega
  have c1 : (⟨#[60]⟩ ++ x : ByteArray).size = 1 + x.size := by rw [cat_size]; rfl
  have c2 : (⟨#[60, 47]⟩ ++ x : ByteArray).size = 2 + x.size := by rw [cat_size]; rfl
  have j1 : ¬ 9223372036854775807 < (⟨#[60]⟩ ++ x : ByteArray).size + 1 := by omega
  have j2 : ¬ 9223372036854775807 < (⟨#[60, 47]⟩ ++ x : ByteArray).size + 1 := by omega
  have j3 : ¬ 9223372036854775807 < (⟨#[60]⟩ ++ x : ByteArray).size + 17 := by omega
  have j4 : ¬ 9223372036854775807 < (⟨#[60]⟩ ++ x : ByteArray).size + 2 := by omega
  have j5 : ¬ 9223372036854775807 < (⟨#[60]⟩ ++ x : ByteArray).size + 22 := by omega
  go_wp2_with fail
  refine (HW _).mono ?_
  rintro e w2 ⟨rfl, rfl⟩
  clear HW
  rcases (show m = 0 ∨ m = 1 ∨ m = 2 ∨ m = 3 ∨ m = 4 ∨ m = 5 ∨ m = 6 ∨ m = 7 ∨ m = 8 ∨ m = 9 ∨ m = 10 ∨ m = 11 ∨ m = 12 ∨ m = 13 ∨ m = 14 ∨ m = 15 by omega) with rfl | rfl | rfl | rfl | rfl | rfl | rfl | rfl | rfl | rfl | rfl | rfl | rfl | rfl | rfl | rfl
  all_goals
    go_wp2
    go_ret
    exact ⟨_, rfl, by first | decide | exact sum_le (m := 15) (n := 22) (by omega) (by decide) (by omega), k1⟩

set_option maxHeartbeats 1000000 in
set_option maxRecDepth 100000 in
/-- Markup: bytes, no more than forty a piece. -/
theorem markup_any (w : World) (ao : Option Addr) (n c : Nat) (F : Nat → Int) (hl : Is w ao n c F) (most : Nat) (hm : most ≤ 20) :
    Calls Tryz.prog 9 #[.slice ao n c, .int .i64 (most : Int)] w fun e w' => ∃ t bo m d, e = .returned (.slice bo m d) ∧ t.size ≤ 40 * most ∧ Rb w' bo m d (b8 (bytesOf t)) ∧ Kp [] w w' := by
  go_enter Tryz.func9, Tryz.ntmps9
  go_wp2_with fail
  go_loopw [5, 6] (fun x i wr => ∃ (k : Nat) (t : ByteArray), i = .int .i64 (k : Int) ∧ x = .string t ∧ k ≤ n ∧ k ≤ most ∧ t.size ≤ 40 * k ∧ Kp [] w wr) (fun _ i _ => most - (intOf i).toNat)
  case atStart => exact ⟨0, ⟨#[]⟩, rfl, rfl, by omega, by omega, Nat.le_refl _, Kp.refl _ _⟩
  case round =>
    obtain ⟨k, t, rfl, rfl, hk1, hk2, ht, kr⟩ := hrel
    by_cases h1 : k < n
    · by_cases h2 : k < most
      · obtain ⟨b, o, rfl, hc⟩ := (hl.kept kr).2 k h1
        generalize F k = y at hc
        have HW := fun W => within_zero W y 1048576 (by omega)
        have hj := wi_le y 1048576
        generalize wi y 1048576 = j at hj HW
        go_wp2_with fail
        refine (HW _).mono ?_
        rintro e w2 ⟨rfl, rfl⟩
        clear HW hc
        go_wp2_with fail
        refine (piece_any _ _ _).mono ?_
        rintro e w3 ⟨p, rfl, hp, k2⟩
        have i7 : ¬ 9223372036854775807 < t.size + p.size := by omega
        go_wp2
        go_roundw
        case rel => exact ⟨k + 1, t ++ p, by go_num, rfl, by omega, by omega, by rw [cat_size]; omega, kr.trans k2 (fun x hx => by simp at hx)⟩
        case measure => simp [intOf]; omega
      · obtain ⟨W, d, hrun, hd, hY⟩ := to_bytes wr t
        have R := hY.rb (c := d) (by rw [bytes_len]; exact hd)
        rw [bytes_len] at R
        have kz := kr.trans hY.kp (fun x hx => by simp at hx)
        have hle : t.size ≤ 40 * most := by omega
        clear hY
        go_wp2
        go_ret
        exact ⟨t, _, _, _, rfl, hle, R, kz⟩
    · obtain ⟨W, d, hrun, hd, hY⟩ := to_bytes wr t
      have R := hY.rb (c := d) (by rw [bytes_len]; exact hd)
      rw [bytes_len] at R
      have kz := kr.trans hY.kp (fun x hx => by simp at hx)
      have hle : t.size ≤ 40 * most := by omega
      clear hY
      go_wp2
      go_ret
      exact ⟨t, _, _, _, rfl, hle, R, kz⟩

/-- What Markup told, as a text. -/
theorem conv_text {w : World} {bo : Option Addr} {m d : Nat} {t : ByteArray} (h : Rb w bo m d (b8 (bytesOf t))) : (convert 27 9 (.slice bo m d)).run Tryz.prog w = .ok (.string t) w := by
  have := conv_rb h
  rw [strs_bytes] at this
  exact this

end Go.Proofs.YtcfaejbbjmjgpaaGreatDoor
