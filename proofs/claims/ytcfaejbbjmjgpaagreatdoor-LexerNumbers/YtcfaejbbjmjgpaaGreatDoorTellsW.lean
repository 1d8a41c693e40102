/-
  The walks of LexerTells and LexerNumbers: whatever they are given, they answer true, and leave what was there as it was.
-/
import Derived.Test.YtcfaejbbjmjgpaaGreatDoorAllW
import Derived.Test.YtcfaejbbjmjgpaaGreatDoorMarkd
namespace Go.Proofs.YtcfaejbbjmjgpaaGreatDoor
open Go.RowKit Utf
set_option linter.unusedVariables false

set_option maxHeartbeats 1000000 in
set_option maxRecDepth 100000 in
theorem ltells_any (w : World) (hn : Nm w) (hi : In w) (s0 : ByteArray) (ao : Option Addr) (n c : Nat) (F : Nat → Int) (hl : Is w ao n c F) : Calls Tryz.prog 4 #[.string s0, .slice ao n c] w fun e w' => e = .returned (.bool true) ∧ Kp [] w w' := by
  have hsz := cut_size s0 120
  have HS := fun W => cut_any W s0 120 (by omega)
  generalize (if 120 < s0.size then s0.extract 0 120 else s0) = s at HS hsz
  have HM := fun W (kk : Kp [] w W) => markup_any W ao n c F (hl.kept kk) 20 (by omega)
  have HA := fun W (kk : Kp [] w W) y (hy : y.size ≤ 4000) => alllaw_any W (hn.kept kk) (hi.kept kk) y hy
  have HK := fun W (kk : Kp [] w W) => known_any W (hn.kept kk) (hi.kept kk)
  clear hl hn hi
  go_enter Tryz.func4, Tryz.ntmps4
  go_wp2_with fail
  refine (HS _).mono ?_
  rintro e w' ⟨rfl, rfl⟩
  clear HS
  rename World => w
  have H1 := HA w (Kp.refl _ _) s (by omega)
  go_wp2_with fail
  refine H1.mono ?_
  rintro e w1 ⟨rfl, k1⟩
  clear H1
  have HM1 := HM _ k1
  clear HM
  go_wp2_with fail
  refine HM1.mono ?_
  rintro e w2 ⟨t, bo, m, d, rfl, ht, R, k2⟩
  clear HM1
  have k3 := k1.trans k2 (fun z hz => by simp at hz)
  have hcv := conv_text R
  have H2 := HA _ k3 t (by omega)
  clear R k1 k2
  go_wp2_with fail
  refine (from_back H2 k3).mono ?_
  rintro e w4 ⟨rfl, k4⟩
  clear H2 hcv k3
  have z1 : (⟨#[60]⟩ ++ s : ByteArray).size = 1 + s.size := by rw [cat_size]; rfl
  have z2 : ((⟨#[60]⟩ ++ s) ++ ⟨#[62]⟩ : ByteArray).size = 1 + s.size + 1 := by rw [cat_size, z1]; rfl
  have j1 : ¬ 9223372036854775807 < 1 + s.size := by omega
  have j2 : ¬ 9223372036854775807 < (⟨#[60]⟩ ++ s : ByteArray).size + 1 := by omega
  have H3 := HA _ k4 ((⟨#[60]⟩ ++ s) ++ ⟨#[62]⟩) (by omega)
  clear z1 z2
  go_wp2_with fail
  refine (from_back H3 k4).mono ?_
  rintro e w5 ⟨rfl, k5⟩
  clear H3 k4 HA j1 j2
  have H4 := HK _ k5
  go_wp2_with fail
  refine (from_back H4 k5).mono ?_
  rintro e w6 ⟨rfl, k6⟩
  clear H4 HK k5
  go_wp2
  go_ret
  exact ⟨rfl, k6⟩

/-- The texts. -/
def TXS : List ByteArray := [⟨#[60, 116, 105, 116, 108, 101, 62, 97, 60, 98, 62, 38, 108, 116, 59, 60, 47, 116, 105, 116, 108, 101, 32, 120, 62, 121]⟩, ⟨#[97, 32, 60, 32, 98, 32, 38, 97, 109, 112, 59, 32, 99]⟩, ⟨#[60, 112]⟩, ⟨#[120, 60, 112]⟩, ⟨#[60, 115, 99, 114, 105, 112, 116, 62, 60, 112, 62, 60, 47, 115, 99, 114, 105, 112, 116, 121, 62, 60, 47, 83, 67, 82, 73, 80, 84, 32, 62, 122]⟩, ⟨#[60, 112, 108, 97, 105, 110, 116, 101, 120, 116, 62, 60, 47, 112, 108, 97, 105, 110, 116, 101, 120, 116, 62, 38, 108, 116, 59]⟩, ⟨#[60, 116, 101, 120, 116, 97, 114, 101, 97, 62, 38, 97, 109, 112, 59, 60, 47, 116, 101, 120, 116, 97, 114, 101, 97, 47, 62]⟩, ⟨#[60, 47, 62, 97, 60, 47, 62]⟩, ⟨#[60, 115, 116, 121, 108, 101, 62, 60, 47, 115, 116, 121, 108, 101, 62]⟩, ⟨#[97, 60, 33, 45, 45, 98, 45, 45, 62, 99, 60, 33, 100, 62]⟩, ⟨#[60, 33, 91, 67, 68, 65, 84, 65, 91, 120, 93, 93, 62]⟩, ⟨#[38, 38, 38]⟩, ⟨#[60, 60, 97, 62]⟩, ⟨#[60, 47, 32, 120, 62]⟩, ⟨#[60, 120, 109, 112, 62, 60, 33, 45, 45, 60, 47, 120, 109, 112, 62, 45, 45, 62, 60, 47, 120, 109, 112, 62]⟩]
theorem txs_len : TXS.length = 15 := by kernel_rfl
theorem txs_size : ∀ x, x ∈ TXS → x.size ≤ 100 := by decide +kernel

set_option maxHeartbeats 1000000 in
set_option maxRecDepth 100000 in
theorem lnumbers_any (w : World) (hn : Nm w) (hi : In w) : Calls Tryz.prog 3 #[] w fun e w' => e = .returned (.bool true) ∧ Kp [] w w' := by
  have HA := fun W (kk : Kp [] w W) y (hy : y.size ≤ 4000) => alllaw_any W (hn.kept kk) (hi.kept kk) y hy
  have HK := fun W (kk : Kp [] w W) => known_any W (hn.kept kk) (hi.kept kk)
  have HR : Rb (w.alloc (.cells (tx TXS).toArray 9)) (some ⟨w.heap.size, 0, none⟩) 15 15 (tx TXS) := rb_lit w 9 _ (tx TXS) 15 rfl (by kernel_rfl) (by omega)
  have k1 : Kp [] w (w.alloc (.cells (tx TXS).toArray 9)) := (Kp.refl _ _).alloc _
  clear hn hi
  go_enter Tryz.func3, Tryz.ntmps3
  go_upto_region 1 with fail
  refine wp_region_lit ?_
  refine build_texts rfl 22 9 15 _ rfl TXS Tryz.underlying22 (by kernel_rfl) (by kernel_rfl) (by kernel_rfl) (by omega) (by omega) (by kernel_rfl) ?_
  generalize w.alloc (.cells (tx TXS).toArray 9) = W0 at HR k1 ⊢
  generalize some (⟨w.heap.size, 0, none⟩ : Addr) = ta at HR ⊢
  go_wp2_with fail
  go_loopw [6] (fun i wr => ∃ j : Nat, j ≤ 15 ∧ i = .int .i64 (j : Int) ∧ Kp [] w wr ∧ Rb wr ta 15 15 (tx TXS)) (fun i _ => 15 - (intOf i).toNat)
  case atStart => exact ⟨0, by omega, rfl, k1, HR⟩
  case round =>
    obtain ⟨j, j1, rfl, kr, Rr⟩ := hrel
    clear k1 HR
    by_cases hj : j < 15
    · obtain ⟨b1, o1, rfl, h1⟩ := Rr.tx_at j (by rw [txs_len]; exact hj)
      have hx := txs_size (TXS[j]'(by rw [txs_len]; exact hj)) (List.getElem_mem _)
      generalize TXS[j]'(by rw [txs_len]; exact hj) = s at h1 hx
      obtain ⟨wo, hwo⟩ : ∃ wo : World, wo = wr := ⟨_, rfl⟩
      subst hwo
      go_wp2_with fail
      rw [show decide ((j : Int) < 15) = true from decide_eq_true (by omega)]
      go_loopw [3] (fun i wr => ∃ k : Nat, k ≤ s.size + 1 ∧ i = .int .i64 (k : Int) ∧ Kp [] wo wr) (fun i _ => s.size + 1 - (intOf i).toNat)
      case atStart => exact ⟨0, by omega, rfl, Kp.refl _ _⟩
      case round =>
        obtain ⟨k, hk, rfl, kq⟩ := hrel
        have kw := kr.trans kq (fun z hz => by simp at hz)
        by_cases hle : k ≤ s.size
        · have H1 := HA _ kw (s.extract 0 k) (by have := cut_le s 0 k; omega)
          have i1 : (0 : Int) ≤ (k : Int) := by omega
          have i2 : (k : Int) ≤ (s.size : Int) := by omega
          clear HA HK
          go_wp2_with fail
          refine H1.mono ?_
          rintro e w3 ⟨rfl, k3⟩
          clear H1
          go_wp2
          go_roundw
          case rel => exact ⟨k + 1, by omega, by go_num, kq.trans k3 (fun z hz => by simp at hz)⟩
          case measure => simp [intOf]; omega
        · have i2 : ¬ (k : Int) ≤ (s.size : Int) := by omega
          have Rz := Rr.kept kq
          clear h1
          go_wp2
          go_roundw
          case rel => exact ⟨j + 1, by omega, by go_num, kw, Rz⟩
          case measure => simp [intOf]; omega
    · have H4 := HK _ kr
      clear HA HK
      go_wp2_with fail
      refine (from_back H4 kr).mono ?_
      rintro e w6 ⟨rfl, k6⟩
      clear H4
      go_wp2
      go_ret
      exact ⟨rfl, k6⟩

end Go.Proofs.YtcfaejbbjmjgpaaGreatDoor
