/-
  The walk of NamesNumbers: it answers true, and leaves what was there as it was.
-/
import Derived.Test.YtpapdcnkbfmcpaaAgree
namespace Go.Proofs.Ytpapdcnkbfmcpaa
open Go.RowKit

def MORE : List (List UInt8) := [[], [104, 48], [104, 55], [72, 49], [97, 114, 101, 97], [98, 97, 115, 101], [99, 111, 108], [101, 109, 98, 101, 100], [115, 111, 117, 114, 99, 101], [119, 98, 114], [109, 101, 116, 97], [97, 114, 116, 105, 99, 108, 101], [98, 108, 111, 99, 107, 113, 117, 111, 116, 101], [99, 101, 110, 116, 101, 114], [100, 108], [109, 97, 105, 110], [110, 97, 118], [111, 108], [115, 101, 99, 116, 105, 111, 110], [99, 111, 100, 101], [115, 109, 97, 108, 108], [115, 116, 114, 111, 110, 103], [117], [109, 97, 114, 113, 117, 101, 101], [116, 102, 111, 111, 116], [102, 111, 114, 101, 105, 103, 110, 79, 98, 106, 101, 99, 116], [118, 105, 101, 119, 98, 111, 120], [99, 108, 105, 112, 112, 97, 116, 104], [108, 105, 110, 101, 97, 114, 103, 114, 97, 100, 105, 101, 110, 116], [116, 101, 120, 116, 112, 97, 116, 104], [112, 114, 101, 115, 101, 114, 118, 101, 97, 115, 112, 101, 99, 116, 114, 97, 116, 105, 111], [107, 101, 121, 103, 101, 110], [109, 97, 116, 104], [99, 97, 112, 116, 105, 111, 110], [99, 111, 108, 103, 114, 111, 117, 112], [102, 114, 97, 109, 101], [102, 105, 103, 117, 114, 101], [80]]
theorem more_len : (MORE.map txt).length = 38 := by kernel_rfl
theorem more_size : ∀ x, x ∈ MORE.map txt → x.size ≤ 1000 := by decide +kernel

set_option maxRecDepth 100000 in
set_option maxHeartbeats 2000000 in
theorem numbers_any (w : World) : Calls Try.prog 3 #[] w fun e w' => e = .returned (.bool true) ∧ Kp [] w w' := by
  go_enter Try.func3, Try.ntmps3
  go_wp2
  go_loopw [1] (fun i wr => ∃ k : Nat, k ≤ 60 ∧ i = .int .i64 k ∧ Kp [] w wr) (fun i _ => 60 - (intOf i).toNat)
  case atStart => exact ⟨0, by omega, rfl, Kp.refl _ _⟩
  case round =>
    obtain ⟨k, hk, rfl, kr⟩ := hrel
    by_cases hlt : k < 60
    · go_wp2
      rw [show decide ((k : Int) < 60) = true by simp; omega]
      go_loopw [2] (fun i wr => ∃ j : Nat, j ≤ 4 ∧ i = .int .i64 j ∧ Kp [] w wr) (fun i _ => 4 - (intOf i).toNat)
      case atStart => exact ⟨0, by omega, rfl, kr⟩
      case round =>
        obtain ⟨j, hj, rfl, kj⟩ := hrel
        clear kr
        by_cases hlt2 : j < 4
        · go_wp2_with fail
          refine (names_any _ _).mono ?_
          rintro e w1 ⟨x, rfl, hx, kk⟩
          have k1 := kj.trans kk (fun x hx => by simp at hx)
          clear kj kk
          go_wp2_with fail
          refine (from_back (same_any _ _ x (by omega)) k1).mono ?_
          rintro e w2 ⟨rfl, k2⟩
          clear k1
          go_wp2
          go_roundw
          case rel => exact ⟨j + 1, by omega, by go_num, k2⟩
          case measure => simp [intOf]; omega
        · go_wp2
          go_roundw
          case rel => exact ⟨k + 1, by omega, by go_num, kj⟩
          case measure => simp [intOf]; omega
    · have HR : Rb (wr.alloc (.cells (tx (MORE.map txt)).toArray 9)) (some ⟨wr.heap.size, 0, none⟩) 38 38 (tx (MORE.map txt)) := rb_lit wr 9 _ _ 38 rfl (by kernel_rfl) (by omega)
      have HK : Kp [] wr (wr.alloc (.cells (tx (MORE.map txt)).toArray 9)) := (Kp.refl _ _).alloc _
      go_upto_region 9 with fail
      refine wp_region_lit ?_
      refine build_texts rfl 24 9 38 _ rfl (MORE.map txt) Try.underlying24 (by kernel_rfl) (by kernel_rfl) (by kernel_rfl) (by omega) (by omega) (by kernel_rfl) ?_
      generalize wr.alloc (.cells (tx (MORE.map txt)).toArray 9) = w1 at HR HK
      generalize some (⟨wr.heap.size, 0, none⟩ : Addr) = a1 at HR
      have kw := kr.trans HK (fun x hx => by simp at hx)
      clear HK kr
      go_wp2
      go_loopw [21] (fun i wr => ∃ p : Nat, i = .int .i64 (p : Int) ∧ p ≤ 38 ∧ Kp [] w wr ∧ Rb wr a1 38 38 (tx (MORE.map txt))) (fun i _ => 38 - (intOf i).toNat)
      case atStart => exact ⟨0, rfl, by omega, kw, HR⟩
      case round =>
        obtain ⟨p, rfl, hp, kp, rp⟩ := hrel
        clear kw HR
        by_cases hlt3 : p < 38
        · obtain ⟨b, o, rfl, hc⟩ := rp.tx_at p (by rw [more_len]; exact hlt3)
          have hx := more_size _ (List.getElem_mem (l := MORE.map txt) (n := p) (by rw [more_len]; exact hlt3))
          generalize (MORE.map txt)[p]'(by rw [more_len]; exact hlt3) = x at hc hx
          go_wp2
          rw [show decide ((p : Int) < 38) = true by simp; omega]
          go_loopw [5] (fun i wr => ∃ j : Nat, j ≤ 4 ∧ i = .int .i64 j ∧ Kp [] w wr ∧ Rb wr (some ⟨b, o, none⟩) 38 38 (tx (MORE.map txt))) (fun i _ => 4 - (intOf i).toNat)
          case atStart => exact ⟨0, by omega, rfl, kp, rp⟩
          case round =>
            obtain ⟨j, hj, rfl, kj, rj⟩ := hrel
            clear kp rp hc
            by_cases hlt2 : j < 4
            · go_wp2_with fail
              refine (same_any _ _ x hx).mono ?_
              rintro e w2 ⟨rfl, kk⟩
              have k2 := kj.trans kk (fun x hx => by simp at hx)
              have r2 := rj.kept kk
              clear kj kk rj
              go_wp2
              go_roundw
              case rel => exact ⟨j + 1, by omega, by go_num, k2, r2⟩
              case measure => simp [intOf]; omega
            · go_wp2
              go_roundw
              case rel => exact ⟨p + 1, by go_num, by omega, kj, rj⟩
              case measure => simp [intOf]; omega
        · go_wp2_with fail
          refine (known_any _).mono ?_
          rintro e w' ⟨rfl, rfl⟩
          go_wp2
          go_ret
          exact ⟨rfl, kp⟩

end Go.Proofs.Ytpapdcnkbfmcpaa
