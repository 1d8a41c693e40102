/-
  The walk of RefsNumbers: it answers true, and leaves what was there as it was.
-/
import Derived.Test.YtidkcfblfibaaaaDoorTells
import Derived.Deep.RegionHeld3
namespace Go.Proofs.YtidkcfblfibaaaaDoor
open Go.RowKit Utf

/-- Numbers, as values. -/
def i64s (l : List Int) : List Value := l.map (Value.int .i64)

/-- The last numbers that are asked. -/
def LST : List Int := [55295, 55296, 57343, 57344, 65535, 65536, 1114111, 1114112, 1099511627776, -4611686018427387904]

theorem lst_64 : ∀ x, x ∈ LST → int64 x := by
  unfold int64 LST
  intro x hx
  simp only [List.mem_cons, List.not_mem_nil, or_false] at hx
  rcases hx with rfl | rfl | rfl | rfl | rfl | rfl | rfl | rfl | rfl | rfl <;> omega

theorem Rb.lst_at {w : World} {ao : Option Addr} {n c : Nat} (h : Rb w ao n c (i64s LST)) (k : Nat) (hk : k < 10) : ∃ b off, ao = some ⟨b, off, none⟩ ∧ w.cell? ⟨b, off + k, none⟩ = some (Value.int .i64 (LST.getD k 0)) ∧ int64 (LST.getD k 0) := by
  have hl := h.len
  rw [show (i64s LST).length = 10 from rfl] at hl
  obtain ⟨b, off, h1, h2⟩ := h.at' k (by omega)
  have hk' : k < LST.length := hk
  refine ⟨b, off, h1, by rw [h2]; simp [i64s, hk'], lst_64 _ ?_⟩
  rw [List.getD_eq_getElem?_getD, List.getElem?_eq_getElem hk']
  exact List.getElem_mem _

set_option maxHeartbeats 2000000 in
theorem numbers_any (w : World) (hn : Nm w) (hi : In w) : Calls Tryd.prog 3 #[] w fun e w' => e = .returned (.bool true) ∧ Kp [] w w' := by
  go_enter Tryd.func3, Tryd.ntmps3
  go_wp2_with fail
  refine (ref_all_any _).mono ?_
  rintro e w1 ⟨ao, m, c, rfl, m1⟩
  obtain rfl : m = 51 := by
    have := m1.rb.len
    rw [tx_len, nm_len] at this
    exact this
  have r1 := m1.rb
  have k1 := m1.2.1
  have n1 := hn.kept k1
  clear m1
  go_wp2_with fail
  refine (all_any _ n1).mono ?_
  rintro e w2 ⟨bo, m, d, rfl, m2⟩
  have r2 := r1.kept m2.2.1
  have k2 := k1.trans m2.2.1 (fun x hx => by simp at hx)
  have HS := same_texts w2 bo ao m d 51 c NM m2.rb r2 (by have := m2.rb.len; rw [tx_len, nm_len] at this; omega)
  clear m2 r1 n1 k1
  go_wp2_with fail
  refine HS.mono ?_
  rintro e w3 ⟨rfl, kk⟩
  have r3 := r2.kept kk
  have k3 := k2.trans kk (fun x hx => by simp at hx)
  clear HS r2 k2 kk
  go_wp2
  go_loopw [2] (fun i wr => ∃ k : Nat, i = .int .i64 (k : Int) ∧ k ≤ 51 ∧ Kp [] w wr ∧ Rb wr ao 51 c (tx NM)) (fun i _ => 51 - (intOf i).toNat)
  case atStart => exact ⟨0, rfl, by omega, k3, r3⟩
  case round =>
    obtain ⟨k, rfl, hk, kr, rr⟩ := hrel
    clear k3 r3
    by_cases hlt : k < 51
    · obtain ⟨b, o, rfl, hc⟩ := rr.tx_at k (by rw [nm_len]; exact hlt)
      obtain ⟨hx1, hx2⟩ := nm_size (NM[k]'(by rw [nm_len]; exact hlt)) (List.getElem_mem _)
      generalize NM[k]'(by rw [nm_len]; exact hlt) = x at hc hx1 hx2
      have HC : Hid (∀ w', Kp [] wr w' → w'.cell? ⟨b, o + k, none⟩ = some (.string x)) := fun w' kk => by
        rw [kk.cell (a := ⟨b, o + k, none⟩) (block_lt_of_cell hc) (by simp)]
        exact hc
      have HN : Hid (∀ w', Kp [] wr w' → Nm w') := fun w' kk => hn.kept (kr.trans kk (fun x hx => by simp at hx))
      have i1 : (0 : Int) ≤ (k : Int) := by omega
      have i2 : (k : Int) < ((51 : Nat) : Int) := by omega
      have i3 : (1 : Int) ≤ (x.size : Int) := by omega
      have i4 : (0 : Int) ≤ (x.size : Int) - 1 := by omega
      have i5 : (x.size : Int) - 1 ≤ (x.size : Int) := by omega
      have i6 : IntKind.i64.wrap ((x.size : Int) - 1) = (x.size : Int) - 1 := by rw [IntKind.wrap_i64]; omega
      clear hn hi hc
      go_wp2_with fail
      have i7 : ¬ 9223372036854775807 < x.size + 1 := by omega
      go_region_held3 (fun w' => w'.cell? ⟨b, o + k, none⟩ = some (.string x) ∧ Kp [] wr w')
        (first
          | exact ⟨HC.out _ (Kp.refl [] wr).drew, (Kp.refl [] wr).drew⟩
          | exact ⟨HC.out _ S5.out, S5.out⟩
          | exact ⟨HC.out _ S4.out, S4.out⟩
          | exact ⟨HC.out _ S3.out, S3.out⟩
          | exact ⟨HC.out _ S2.out, S2.out⟩
          | exact ⟨HC.out _ S1.out, S1.out⟩)
        (first
          | (go_at_call 10; refine (same_any _ (HN.out _ S4.out) _).mono ?_; rintro e v5 ⟨rfl, kk⟩; have S5 : Hid (Kp [] wr v5) := S4.out.trans kk (fun x hx => by simp at hx); clear kk)
          | (go_at_call 10; refine (same_any _ (HN.out _ S3.out) _).mono ?_; rintro e v4 ⟨rfl, kk⟩; have S4 : Hid (Kp [] wr v4) := S3.out.trans kk (fun x hx => by simp at hx); clear kk)
          | (go_at_call 10; refine (same_any _ (HN.out _ S2.out) _).mono ?_; rintro e v3 ⟨rfl, kk⟩; have S3 : Hid (Kp [] wr v3) := S2.out.trans kk (fun x hx => by simp at hx); clear kk)
          | (go_at_call 10; refine (same_any _ (HN.out _ S1.out) _).mono ?_; rintro e v2 ⟨rfl, kk⟩; have S2 : Hid (Kp [] wr v2) := S1.out.trans kk (fun x hx => by simp at hx); clear kk)
          | (go_at_call 10; refine (same_any _ (HN.out _ (Kp.refl [] wr).drew) _).mono ?_; rintro e v1 ⟨rfl, kk⟩; have S1 : Hid (Kp [] wr v1) := (Kp.refl [] wr).drew.trans kk (fun x hx => by simp at hx); clear kk))
      clear HC HN i1 i2 i3 i4 i5 i6 i7
      go_wp2
      go_roundw
      case rel => exact ⟨k + 1, by go_num, by omega, kr.trans S5.out (fun x hx => by simp at hx), rr.kept S5.out⟩
      case measure => simp [intOf]; omega
    · clear rr
      go_wp2
      go_loopw [3] (fun i wr => ∃ k : Int, i = .int .i64 k ∧ -2 ≤ k ∧ k ≤ 300 ∧ Kp [] w wr) (fun i _ => (300 - intOf i).toNat)
      case atStart => exact ⟨-2, rfl, by omega, by omega, kr⟩
      case round =>
        obtain ⟨q, rfl, hq1, hq2, kq⟩ := hrel
        clear kr
        by_cases hlt2 : q < 300
        · have h64 : int64 q := by unfold int64; omega
          have A := number_any _ (hi.kept kq) q h64
          have B := fun W => ref_number_any W q h64
          generalize num q = t at A B
          clear h64
          go_wp2_with fail
          refine A.mono ?_
          rintro e w' ⟨rfl, rfl⟩
          go_wp2_with fail
          refine (B _).mono ?_
          rintro e w5 ⟨rfl, kk⟩
          clear A B
          go_wp2
          go_roundw
          case rel => exact ⟨q + 1, rfl, by omega, by omega, kq.trans kk (fun x hx => by simp at hx)⟩
          case measure => simp [intOf]; omega
        · have HR : Rb (wr.alloc (.cells #[.int .i64 55295, .int .i64 55296, .int .i64 57343, .int .i64 57344, .int .i64 65535, .int .i64 65536, .int .i64 1114111, .int .i64 1114112, .int .i64 1099511627776, .int .i64 (-4611686018427387904)] 3)) (some ⟨wr.heap.size, 0, none⟩) 10 10 (i64s LST) := rb_lit wr 3 _ (i64s LST) 10 rfl rfl (by omega)
          have kl : Kp [] wr (wr.alloc (.cells #[.int .i64 55295, .int .i64 55296, .int .i64 57343, .int .i64 57344, .int .i64 65535, .int .i64 65536, .int .i64 1114111, .int .i64 1114112, .int .i64 1099511627776, .int .i64 (-4611686018427387904)] 3)) := (Kp.refl _ _).alloc _
          have kw := kq.trans kl (fun x hx => by simp at hx)
          clear kl
          go_wp2
          generalize wr.alloc (.cells #[.int .i64 55295, .int .i64 55296, .int .i64 57343, .int .i64 57344, .int .i64 65535, .int .i64 65536, .int .i64 1114111, .int .i64 1114112, .int .i64 1099511627776, .int .i64 (-4611686018427387904)] 3) = w6 at HR kw ⊢
          generalize some (⟨wr.heap.size, 0, none⟩ : Addr) = la at HR ⊢
          clear kq
          go_loopw [76] (fun i wr => ∃ k : Nat, i = .int .i64 (k : Int) ∧ k ≤ 10 ∧ Kp [] w wr ∧ Rb wr la 10 10 (i64s LST)) (fun i _ => 10 - (intOf i).toNat)
          case atStart => exact ⟨0, rfl, by omega, kw, HR⟩
          case round =>
            obtain ⟨p, rfl, hp, kp, rp⟩ := hrel
            clear kw HR
            by_cases hlt3 : p < 10
            · obtain ⟨b, o, rfl, hc, h64⟩ := rp.lst_at p hlt3
              generalize LST.getD p 0 = z at hc h64
              have A := number_any _ (hi.kept kp) z h64
              have B := fun W => ref_number_any W z h64
              generalize num z = t at A B
              clear h64
              go_wp2_with fail
              refine A.mono ?_
              rintro e w' ⟨rfl, rfl⟩
              go_wp2_with fail
              refine (B _).mono ?_
              rintro e w5 ⟨rfl, kk⟩
              clear A B
              go_wp2
              go_roundw
              case rel => exact ⟨p + 1, by go_num, by omega, kp.trans kk (fun x hx => by simp at hx), rp.kept kk⟩
              case measure => simp [intOf]; omega
            · go_wp2_with fail
              refine (known_any _ (hn.kept kp)).mono ?_
              rintro e w' ⟨rfl, rfl⟩
              go_wp2
              go_ret
              exact ⟨rfl, kp⟩

end Go.Proofs.YtidkcfblfibaaaaDoor
