/-
  The walk of RefNumbers: it answers true, and leaves what was there as it was.
-/
import Derived.Test.YtdakgkkcikmcnaaDoorAgree
import Derived.Test.YtdakgkkcikmcnaaDoorAlls
namespace Go.Proofs.YtdakgkkcikmcnaaDoor
open Go.RowKit Utf
set_option linter.unusedVariables false

/-- What may stand behind a name. -/
def TAILS : List ByteArray := [⟨#[]⟩, ⟨#[59]⟩, ⟨#[61]⟩, ⟨#[97]⟩, ⟨#[90]⟩, ⟨#[53]⟩, ⟨#[32]⟩, ⟨#[38]⟩, ⟨#[195, 169]⟩]
/-- The texts that are asked. -/
def TEXTS : List ByteArray := [⟨#[38]⟩, ⟨#[38, 35]⟩, ⟨#[38, 35, 120]⟩, ⟨#[38, 35, 88]⟩, ⟨#[38, 35, 59]⟩, ⟨#[38, 35, 120, 59]⟩, ⟨#[38, 35, 48, 59]⟩, ⟨#[38, 35, 48, 48, 48, 54, 53]⟩, ⟨#[38, 35, 120, 49, 49, 48, 48, 48, 48, 59]⟩, ⟨#[38, 35, 49, 49, 49, 52, 49, 49, 49, 59]⟩, ⟨#[38, 35, 57, 57, 57, 57, 57, 57, 57, 57, 57, 57, 57, 57, 57, 57, 57, 57, 57, 57, 57, 57, 57, 57, 57, 59]⟩, ⟨#[38, 35, 120, 102, 102, 102, 102, 102, 102, 102, 102, 102, 102, 102, 102, 102, 102, 102, 102, 102, 102, 102, 102, 59]⟩, ⟨#[38, 35, 49, 50, 56, 59]⟩, ⟨#[38, 35, 120, 57, 70]⟩, ⟨#[38, 35, 120, 68, 56, 48, 48, 59]⟩, ⟨#[38, 35, 120, 52, 49, 103]⟩, ⟨#[38, 35, 49, 50, 97]⟩, ⟨#[38, 120]⟩, ⟨#[38, 49]⟩, ⟨#[]⟩]
theorem tails_len : TAILS.length = 9 := by kernel_rfl
theorem texts_len : TEXTS.length = 20 := by kernel_rfl
theorem tails_size : ∀ x, x ∈ TAILS → x.size ≤ 2 := by decide +kernel
theorem texts_size : ∀ x, x ∈ TEXTS → x.size ≤ 30 := by decide +kernel

set_option maxHeartbeats 1000000 in
set_option maxRecDepth 100000 in
theorem numbers_any (w : World) (hn : Nm w) (hi : In w) : Calls Tryd.prog 3 #[] w fun e w' => e = .returned (.bool true) ∧ Kp [] w w' := by
  go_enter Tryd.func3, Tryd.ntmps3
  go_wp2_with fail
  refine (ref_all_any _).mono ?_
  rintro e w1 ⟨ao, m, c, rfl, m1⟩
  obtain rfl : m = 51 := by
    have := m1.rb.len
    rw [tx_len, nm_len] at this
    exact this
  have r1 := m1.rb
  have k1 := m1.2.1
  clear m1
  go_wp2
  go_loopw [2] (fun i wr => ∃ k : Nat, i = .int .i64 (k : Int) ∧ k ≤ 51 ∧ Kp [] w wr ∧ Rb wr ao 51 c (tx NM)) (fun i _ => 51 - (intOf i).toNat)
  case atStart => exact ⟨0, rfl, by omega, k1, r1⟩
  case round =>
    obtain ⟨k, rfl, hk, kr, rr⟩ := hrel
    clear k1 r1
    by_cases hlt : k < 51
    · have HR : Rb (wr.alloc (.cells (tx TAILS).toArray 9)) (some ⟨wr.heap.size, 0, none⟩) 9 9 (tx TAILS) := rb_lit wr 9 _ (tx TAILS) 9 rfl (by kernel_rfl) (by omega)
      have HK : Kp [] wr (wr.alloc (.cells (tx TAILS).toArray 9)) := (Kp.refl _ _).alloc _
      have r2 := rr.kept HK
      have k2 := kr.trans HK (fun x hx => by simp at hx)
      obtain ⟨hx1, hx2⟩ := nm_size (NM[k]'(by rw [nm_len]; exact hlt)) (List.getElem_mem _)
      have HX : Hid (∀ W, Rb W ao 51 c (tx NM) → ∃ b o, ao = some ⟨b, o, none⟩ ∧ W.cell? ⟨b, o + k, none⟩ = some (.string (NM[k]'(by rw [nm_len]; exact hlt)))) := fun W hW => hW.tx_at k (by rw [nm_len]; exact hlt)
      generalize NM[k]'(by rw [nm_len]; exact hlt) = x at hx1 hx2 HX
      clear rr kr HK
      go_upto_region 5 with fail
      refine wp_region_lit ?_
      refine build_texts rfl 22 9 9 _ rfl TAILS Tryd.underlying22 (by kernel_rfl) (by kernel_rfl) (by kernel_rfl) (by omega) (by omega) (by kernel_rfl) ?_
      generalize wr.alloc (.cells (tx TAILS).toArray 9) = w2 at HR r2 k2 ⊢
      generalize some (⟨wr.heap.size, 0, none⟩ : Addr) = ta at HR ⊢
      go_wp2
      go_loopw [17] (fun j wx => ∃ q : Nat, j = .int .i64 (q : Int) ∧ q ≤ 9 ∧ Kp [] w wx ∧ Rb wx ao 51 c (tx NM) ∧ Rb wx ta 9 9 (tx TAILS)) (fun j _ => 9 - (intOf j).toNat)
      case atStart => exact ⟨0, rfl, by omega, k2, r2, HR⟩
      case round =>
        obtain ⟨q, rfl, hq, kq, rq, rt⟩ := hrel
        clear k2 r2 HR
        by_cases hlt2 : q < 9
        · obtain ⟨b1, o1, rfl, h1⟩ := HX.out _ rq
          obtain ⟨b2, o2, rfl, h2⟩ := rt.tx_at q (by rw [tails_len]; exact hlt2)
          have hy := tails_size (TAILS[q]'(by rw [tails_len]; exact hlt2)) (List.getElem_mem _)
          generalize TAILS[q]'(by rw [tails_len]; exact hlt2) = y at h2 hy
          have z1 : (⟨#[38]⟩ ++ x ++ y).size ≤ 20000 := by
            rw [cat_size, cat_size, show ByteArray.size ⟨#[38]⟩ = 1 from rfl]
            omega
          have z2 : (⟨#[120, 38]⟩ ++ x ++ y).size ≤ 20000 := by
            rw [cat_size, cat_size, show ByteArray.size ⟨#[120, 38]⟩ = 2 from rfl]
            omega
          have S1 := same_any wr (hn.kept kq) (hi.kept kq) _ 0 true z1
          have S2 := fun W (kk : Kp [] wr W) => same_any W (hn.kept (kq.trans kk (fun x hx => by simp at hx))) (hi.kept (kq.trans kk (fun x hx => by simp at hx))) _ 1 false z2
          have HC : Hid (∀ W, Kp [] wr W → W.cell? ⟨b1, o1 + k, none⟩ = some (.string x)) := fun W kk => by
            rw [kk.cell (a := ⟨b1, o1 + k, none⟩) (block_lt_of_cell h1) (by simp)]
            exact h1
          clear HX z1 z2
          have e1 : (⟨#[38]⟩ ++ x : ByteArray).size = x.size + 1 := by rw [cat_size, show ByteArray.size ⟨#[38]⟩ = 1 from rfl]; omega
          have e2 : (⟨#[120, 38]⟩ ++ x : ByteArray).size = x.size + 2 := by rw [cat_size, show ByteArray.size ⟨#[120, 38]⟩ = 2 from rfl]; omega
          go_wp2_with fail
          refine S1.mono ?_
          rintro e w3 ⟨rfl, k3⟩
          have h3 := HC.out _ k3
          clear S1 h1 HC
          go_wp2_with fail
          refine (from_back (S2 _ k3) k3).mono ?_
          rintro e w4 ⟨rfl, k4⟩
          clear S2 k3 h3 e1 e2
          go_wp2
          go_roundw
          case rel => exact ⟨q + 1, by go_num, by omega, kq.trans k4 (fun x hx => by simp at hx), rq.kept k4, rt.kept k4⟩
          case measure => simp [intOf]; omega
        · clear rt HX
          go_wp2
          go_roundw
          case rel => exact ⟨k + 1, by go_num, by omega, kq, rq⟩
          case measure => simp [intOf]; omega
    · have HR : Rb (wr.alloc (.cells (tx TEXTS).toArray 9)) (some ⟨wr.heap.size, 0, none⟩) 20 20 (tx TEXTS) := rb_lit wr 9 _ (tx TEXTS) 20 rfl (by kernel_rfl) (by omega)
      have HK : Kp [] wr (wr.alloc (.cells (tx TEXTS).toArray 9)) := (Kp.refl _ _).alloc _
      have k2 := kr.trans HK (fun x hx => by simp at hx)
      clear rr kr HK
      go_upto_region 11 with fail
      refine wp_region_lit ?_
      refine build_texts rfl 22 9 20 _ rfl TEXTS Tryd.underlying22 (by kernel_rfl) (by kernel_rfl) (by kernel_rfl) (by omega) (by omega) (by kernel_rfl) ?_
      generalize wr.alloc (.cells (tx TEXTS).toArray 9) = w2 at HR k2 ⊢
      generalize some (⟨wr.heap.size, 0, none⟩ : Addr) = ta at HR ⊢
      go_wp2
      go_loopw [44] (fun j wx => ∃ q : Nat, j = .int .i64 (q : Int) ∧ q ≤ 20 ∧ Kp [] w wx ∧ Rb wx ta 20 20 (tx TEXTS)) (fun j _ => 20 - (intOf j).toNat)
      case atStart => exact ⟨0, rfl, by omega, k2, HR⟩
      case round =>
        obtain ⟨q, rfl, hq, kq, rt⟩ := hrel
        clear k2 HR
        by_cases hlt2 : q < 20
        · obtain ⟨b2, o2, rfl, h2⟩ := rt.tx_at q (by rw [texts_len]; exact hlt2)
          have hy := texts_size (TEXTS[q]'(by rw [texts_len]; exact hlt2)) (List.getElem_mem _)
          generalize TEXTS[q]'(by rw [texts_len]; exact hlt2) = y at h2 hy
          go_wp2
          rw [show decide ((q : Int) < 20) = true from decide_eq_true (by omega)]
          go_loopw [7] (fun j wy => ∃ a : Int, j = .int .i64 a ∧ -1 ≤ a ∧ a ≤ 4 ∧ Kp [] w wy ∧ Rb wy (some ⟨b2, o2, none⟩) 20 20 (tx TEXTS)) (fun j _ => (4 - intOf j).toNat)
          case atStart => exact ⟨-1, rfl, by omega, by omega, kq, rt⟩
          case round =>
            obtain ⟨a, rfl, ha1, ha2, ky, ry⟩ := hrel
            clear kq rt h2
            by_cases hlt3 : a < 4
            · have S1 := same_any wr (hn.kept ky) (hi.kept ky) y a true (by omega)
              have S2 := fun W (kk : Kp [] wr W) => same_any W (hn.kept (ky.trans kk (fun x hx => by simp at hx))) (hi.kept (ky.trans kk (fun x hx => by simp at hx))) y a false (by omega)
              go_wp2_with fail
              refine S1.mono ?_
              rintro e w3 ⟨rfl, k3⟩
              clear S1
              go_wp2_with fail
              refine (from_back (S2 _ k3) k3).mono ?_
              rintro e w4 ⟨rfl, k4⟩
              clear S2 k3
              go_wp2
              go_roundw
              case rel => exact ⟨a + 1, rfl, by omega, by omega, ky.trans k4 (fun x hx => by simp at hx), ry.kept k4⟩
              case measure => simp [intOf]; omega
            · go_wp2
              go_roundw
              case rel => exact ⟨q + 1, by go_num, by omega, ky, ry⟩
              case measure => simp [intOf]; omega
        · clear rt
          go_wp2_with fail
          refine (from_back (known_any _ (hn.kept kq) (hi.kept kq)) kq).mono ?_
          rintro e w3 ⟨rfl, k3⟩
          go_wp2
          go_ret
          exact ⟨rfl, k3⟩

end Go.Proofs.YtdakgkkcikmcnaaDoor
