/-
  Bytes, read rune by rune: the document's Decode.
-/
import Derived.Test.YtinafcajaikfdaaDec
namespace Go.Proofs.Ytinafcajaikfdaa
open Go.RowKit Utf

theorem dec_low {bs ms : List Int} {k : Nat} {x : Int} (hdr : bs.drop k = x :: bs.drop (k + 1)) (hd : dec bs = ms ++ dec (bs.drop k)) (hx : x < 128) : dec bs = (ms ++ [x]) ++ dec (bs.drop (k + 1)) := by
  have h1 : Utf.step x (bs.drop (k + 1)) = (x, bs.drop (k + 1)) := by unfold Utf.step; rw [if_pos hx]
  rw [hd, hdr, dec_cons, h1]
  simp

theorem dec_none {bs ms : List Int} {k : Nat} {x : Int} (hdr : bs.drop k = x :: bs.drop (k + 1)) (hd : dec bs = ms ++ dec (bs.drop k)) (hx : 128 ≤ x) (hf : firstOf x = none) : dec bs = (ms ++ [65533]) ++ dec (bs.drop (k + 1)) := by
  have h1 : Utf.step x (bs.drop (k + 1)) = (65533, bs.drop (k + 1)) := by unfold Utf.step; rw [if_neg (by omega), hf]
  rw [hd, hdr, dec_cons, h1]
  simp

theorem dec_cut {bs ms : List Int} {k : Nat} {x : Int} (hdr : bs.drop k = x :: bs.drop (k + 1)) (hd : dec bs = ms ++ dec (bs.drop k)) (hx : 128 ≤ x) {n : Nat} {lo hi : Int} (hf : firstOf x = some (n, lo, hi)) {m j : Nat} {r : Int}
    (hm : more n lo hi (lead n x) (bs.drop (k + 1)) = (m + 1, r, (bs.drop (k + 1)).drop j)) : dec bs = (ms ++ [65533]) ++ dec (bs.drop (k + 1 + j)) := by
  have h1 := step_some (bs.drop (k + 1)) hx hf
  rw [hm, List.drop_drop] at h1
  rw [hd, hdr, dec_cons, h1]
  simp

theorem dec_whole {bs ms : List Int} {k : Nat} {x : Int} (hdr : bs.drop k = x :: bs.drop (k + 1)) (hd : dec bs = ms ++ dec (bs.drop k)) (hx : 128 ≤ x) {n : Nat} {lo hi : Int} (hf : firstOf x = some (n, lo, hi)) {j : Nat} {r : Int}
    (hm : more n lo hi (lead n x) (bs.drop (k + 1)) = (0, r, (bs.drop (k + 1)).drop j)) : dec bs = (ms ++ [r]) ++ dec (bs.drop (k + 1 + j)) := by
  have h1 := step_some (bs.drop (k + 1)) hx hf
  rw [hm, List.drop_drop] at h1
  rw [hd, hdr, dec_cons, h1]
  simp

set_option maxHeartbeats 4000000 in
set_option maxRecDepth 100000 in
theorem ref_decode_any (w : World) (ao : Option Addr) (n c : Nat) (bs : List Int) (h : Rb w ao n c (b8 bs)) (hb : byt bs) (hl : n ≤ 100000) :
    Calls Try.prog 19 #[.slice ao n c] w fun e w' => ∃ ao' n' c', e = .returned (.slice ao' n' c') ∧ Made w w' 21 ao' n' c' (r32 (dec bs)) := by
  obtain rfl : n = bs.length := by rw [h.len, b8_len]
  have hcp := h.cap
  go_enter Try.func19, Try.ntmps19
  go_wp2
  go_loopw [3, 4] (fun v i wr => ∃ (k : Nat) (ms : List Int) (ao' : Option Addr) (n' c' : Nat), k ≤ bs.length ∧ v = .slice ao' n' c' ∧ i = .int .i64 k ∧ Made w wr 21 ao' n' c' (r32 ms) ∧ Hid (dec bs = ms ++ dec (bs.drop k))) (fun _ i _ => bs.length - (intOf i).toNat)
  case atStart => exact ⟨0, [], none, 0, 0, Nat.zero_le _, rfl, rfl, Made.nil w 21, rfl⟩
  case round =>
    obtain ⟨k, ms, ao', n', c', hk, rfl, rfl, hm, hd⟩ := hrel
    by_cases hlt : k < bs.length
    · have hdr : Hid (bs.drop k = bs[k] :: bs.drop (k + 1)) := by show _ = _; simp
      obtain ⟨q, off, rfl, hcell⟩ := (h.kept hm.2.1).b8_at k hlt
      obtain ⟨x0, x1⟩ := byt_at hb k hlt
      have hms := dec_part hd.out
      generalize bs[k] = x at hdr hcell x0 x1
      by_cases hx : x < 128
      · have HD : Hid (dec bs = (ms ++ [x]) ++ dec (bs.drop (k + 1))) := dec_low hdr.out hd.out hx
        obtain ⟨ao2, n2, c2, w2, hrun, hm2⟩ := hm.one Try.underlying26 info21 rfl (by decide) (.int .i32 x) rfl (by rw [r32_len]; omega)
        rw [r32_snoc] at hm2
        clear hm h hd hdr
        go_wp2_with (at_builtin; refine Lib.wpList_append_run _ rfl _ _ _ _ rfl _ _ rfl rfl _ _ (hrun _) ?_)
        go_roundw
        case rel => exact ⟨k + 1, ms ++ [x], ao2, n2, c2, by omega, rfl, by go_num, hm2, HD⟩
        case measure => simp [intOf]; omega
      have HX : Hid (128 ≤ x) := by show _ ≤ _; omega
      have HF1 := ref_first_any wr x x0 x1
      unfold leadV at HF1
      rcases hf : firstOf x with _ | ⟨n, lo, hi⟩
      · rw [hf] at HF1
        have HD : Hid (dec bs = (ms ++ [65533]) ++ dec (bs.drop (k + 1))) := dec_none hdr.out hd.out HX.out hf
        clear h hd hdr hf
        go_wp2_with fail
        refine HF1.mono ?_
        rintro e w1 ⟨rfl, rfl⟩
        clear HF1
        obtain ⟨ao2, n2, c2, w2, hrun, hm2⟩ := hm.one Try.underlying26 info21 rfl (by decide) (.int .i32 65533) rfl (by rw [r32_len]; omega)
        rw [r32_snoc] at hm2
        clear hm
        go_wp2_with (at_builtin; refine Lib.wpList_append_run _ rfl _ _ _ _ rfl _ _ rfl rfl _ _ (hrun _) ?_)
        go_roundw
        case rel => exact ⟨k + 1, ms ++ [65533], ao2, n2, c2, by omega, rfl, by go_num, hm2, HD⟩
        case measure => simp [intOf]; omega
      · rw [hf] at HF1
        obtain ⟨hn, hlo, hhi, hb0⟩ := lead_b hf
        have HF : Hid (firstOf x = some (n, lo, hi)) := hf
        clear hf
        rcases hn with rfl | rfl | rfl
        · as_aux_lemma =>
          go_wp2_with fail
          refine HF1.mono ?_
          rintro e w1 ⟨rfl, rfl⟩
          clear HF1
          have hld : Hid (lead 1 x = x % 32) := rfl
          have hx0 : 0 ≤ x % 32 := by omega
          have hx1 : x % 32 < 32 := by omega
          have hand : bits .and .i32 x 31 = x % 32 := bits_mask .i32 31 (by decide) wraps_i32 5 (by decide) x x0 (by omega)
          go_wp2
          clear hcell hand
          generalize x % 32 = r0 at hld hx0 hx1 ⊢
          have hlr : (bs.drop (k + 1)).length = bs.length - (k + 1) := by simp
          go_loopw [4, 5, 6, 7, 8] (fun i nn u v rr wr => ∃ (j m : Nat) (lo' hi' r : Int), j + m = 1 ∧ k + 1 + j ≤ bs.length ∧ i = .int .i64 ((k : Int) + 1 + j) ∧ nn = .int .i64 (m : Int) ∧ u = .int .u8 lo' ∧ v = .int .u8 hi' ∧ rr = .int .i32 r ∧ Hid (more 1 lo hi (lead 1 x) (bs.drop (k + 1)) = more m lo' hi' r ((bs.drop (k + 1)).drop j)) ∧ 0 ≤ r ∧ r < rbound j ∧ wr = w1) (fun _ nn _ _ _ _ => (intOf nn).toNat)
          case atStart => exact ⟨0, 1, lo, hi, r0, by omega, by omega, by simp, rfl, rfl, rfl, rfl, by show _ = _; rw [hld.out]; rfl, hx0, hx1, rfl⟩
          case round =>
            obtain ⟨j, m, lo', hi', r, hjm, hjb, rfl, rfl, rfl, rfl, rfl, hmo, hr0, hr1, rfl⟩ := hrel
            have HJ : Hid (j + m = 1) := hjm
            clear hld hx0 hx1 hjm
            rcases m with _ | m
            · have hmm := hmo.out
              rw [more] at hmm
              have HD : Hid (dec bs = (ms ++ [r]) ++ dec (bs.drop (k + 1 + j))) := dec_whole hdr.out hd.out HX.out HF.out hmm
              obtain ⟨ao2, n2, c2, w2, hrun, hm2⟩ := hm.one Try.underlying26 info21 rfl (by decide) (.int .i32 r) rfl (by rw [r32_len]; omega)
              rw [r32_snoc] at hm2
              clear hm h hd hdr hmm hmo hlr
              go_wp2_with (at_builtin; refine Lib.wpList_append_run _ rfl _ _ _ _ rfl _ _ rfl rfl _ _ (hrun _) ?_)
              go_roundw
              case rel => exact ⟨k + 1 + j, ms ++ [r], ao2, n2, c2, by omega, rfl, by go_num, hm2, HD⟩
              case measure => simp [intOf]; omega
            · have hj2 : j ≤ 2 := by have := HJ.out; omega
              have hm3 : m ≤ 2 := by have := HJ.out; omega
              rcases Nat.lt_or_ge (k + 1 + j) bs.length with hjl | hjl
              · obtain ⟨q', off', hqo, hcell⟩ := (h.kept hm.2.1).b8_at (k + 1 + j) hjl
                simp only [Option.some.injEq, Addr.mk.injEq] at hqo
                obtain ⟨rfl, rfl, _⟩ := hqo
                obtain ⟨y0, y1⟩ := byt_at hb (k + 1 + j) hjl
                have hdr2 : (bs.drop (k + 1)).drop j = bs[k + 1 + j] :: (bs.drop (k + 1)).drop (j + 1) := by
                  rw [List.drop_drop, List.drop_drop, show k + 1 + (j + 1) = k + 1 + j + 1 by omega]
                  exact List.drop_eq_getElem_cons hjl
                generalize bs[k + 1 + j] = y at hcell y0 y1 hdr2
                have hmm := hmo.out
                rw [hdr2, more] at hmm
                by_cases hin : lo' ≤ y ∧ y ≤ hi'
                · rw [if_pos hin] at hmm
                  obtain ⟨hi1, hi2⟩ := hin
                  have hrb := rbound_step hj2 hr1 (show y % 64 < 64 by omega)
                  have hr2 := hrb.1
                  have hr3 : Hid (r * 64 + y % 64 < rbound (j + 1)) := hrb.2
                  have HM : Hid (more 1 lo hi (lead 1 x) (bs.drop (k + 1)) = more m 128 191 (r * 64 + y % 64) ((bs.drop (k + 1)).drop (j + 1))) := hmm
                  clear hmm hmo hdr2 hr1 hrb hlr
                  go_wp2
                  go_roundw
                  case rel => exact ⟨j + 1, m, 128, 191, r * 64 + y % 64, by have := HJ.out; omega, by omega, by go_num, by go_num, rfl, rfl, by go_num, HM, by omega, hr3.out, trivial⟩
                  case measure => simp [intOf]
                · rw [if_neg hin] at hmm
                  have HD : Hid (dec bs = (ms ++ [65533]) ++ dec (bs.drop (k + 1 + j))) := dec_cut hdr.out hd.out HX.out HF.out (hmm.trans (by rw [hdr2]))
                  obtain ⟨ao2, n2, c2, w2, hrun, hm2⟩ := hm.one Try.underlying26 info21 rfl (by decide) (.int .i32 65533) rfl (by rw [r32_len]; omega)
                  rw [r32_snoc] at hm2
                  clear hm h hd hdr hmm hmo hlr hdr2 hr1
                  rcases (show y < lo' ∨ (¬ y < lo' ∧ hi' < y) by omega) with hin | ⟨hin, hin2⟩
                  all_goals
                    go_wp2_with (at_builtin; refine Lib.wpList_append_run _ rfl _ _ _ _ rfl _ _ rfl rfl _ _ (hrun _) ?_)
                    go_roundw
                    case rel => exact ⟨k + 1 + j, ms ++ [65533], ao2, n2, c2, by omega, rfl, by go_num, hm2, HD⟩
                    case measure => simp [intOf]; omega
              · have hnil : (bs.drop (k + 1)).drop j = [] := List.drop_eq_nil_of_le (by omega)
                have hmm := hmo.out
                rw [hnil, more] at hmm
                have HD : Hid (dec bs = (ms ++ [65533]) ++ dec (bs.drop (k + 1 + j))) := dec_cut hdr.out hd.out HX.out HF.out (hmm.trans (by rw [hnil]))
                obtain ⟨ao2, n2, c2, w2, hrun, hm2⟩ := hm.one Try.underlying26 info21 rfl (by decide) (.int .i32 65533) rfl (by rw [r32_len]; omega)
                rw [r32_snoc] at hm2
                clear hm h hd hdr hmm hmo hlr hr1 hnil
                go_wp2_with (at_builtin; refine Lib.wpList_append_run _ rfl _ _ _ _ rfl _ _ rfl rfl _ _ (hrun _) ?_)
                go_roundw
                case rel => exact ⟨k + 1 + j, ms ++ [65533], ao2, n2, c2, by omega, rfl, by go_num, hm2, HD⟩
                case measure => simp [intOf]; omega
        · as_aux_lemma =>
          go_wp2_with fail
          refine HF1.mono ?_
          rintro e w1 ⟨rfl, rfl⟩
          clear HF1
          have hld : Hid (lead 2 x = x % 16) := rfl
          have hx0 : 0 ≤ x % 16 := by omega
          have hx1 : x % 16 < 32 := by omega
          have hand : bits .and .i32 x 15 = x % 16 := bits_mask .i32 31 (by decide) wraps_i32 4 (by decide) x x0 (by omega)
          go_wp2
          clear hcell hand
          generalize x % 16 = r0 at hld hx0 hx1 ⊢
          have hlr : (bs.drop (k + 1)).length = bs.length - (k + 1) := by simp
          go_loopw [4, 5, 6, 7, 8] (fun i nn u v rr wr => ∃ (j m : Nat) (lo' hi' r : Int), j + m = 2 ∧ k + 1 + j ≤ bs.length ∧ i = .int .i64 ((k : Int) + 1 + j) ∧ nn = .int .i64 (m : Int) ∧ u = .int .u8 lo' ∧ v = .int .u8 hi' ∧ rr = .int .i32 r ∧ Hid (more 2 lo hi (lead 2 x) (bs.drop (k + 1)) = more m lo' hi' r ((bs.drop (k + 1)).drop j)) ∧ 0 ≤ r ∧ r < rbound j ∧ wr = w1) (fun _ nn _ _ _ _ => (intOf nn).toNat)
          case atStart => exact ⟨0, 2, lo, hi, r0, by omega, by omega, by simp, rfl, rfl, rfl, rfl, by show _ = _; rw [hld.out]; rfl, hx0, hx1, rfl⟩
          case round =>
            obtain ⟨j, m, lo', hi', r, hjm, hjb, rfl, rfl, rfl, rfl, rfl, hmo, hr0, hr1, rfl⟩ := hrel
            have HJ : Hid (j + m = 2) := hjm
            clear hld hx0 hx1 hjm
            rcases m with _ | m
            · have hmm := hmo.out
              rw [more] at hmm
              have HD : Hid (dec bs = (ms ++ [r]) ++ dec (bs.drop (k + 1 + j))) := dec_whole hdr.out hd.out HX.out HF.out hmm
              obtain ⟨ao2, n2, c2, w2, hrun, hm2⟩ := hm.one Try.underlying26 info21 rfl (by decide) (.int .i32 r) rfl (by rw [r32_len]; omega)
              rw [r32_snoc] at hm2
              clear hm h hd hdr hmm hmo hlr
              go_wp2_with (at_builtin; refine Lib.wpList_append_run _ rfl _ _ _ _ rfl _ _ rfl rfl _ _ (hrun _) ?_)
              go_roundw
              case rel => exact ⟨k + 1 + j, ms ++ [r], ao2, n2, c2, by omega, rfl, by go_num, hm2, HD⟩
              case measure => simp [intOf]; omega
            · have hj2 : j ≤ 2 := by have := HJ.out; omega
              have hm3 : m ≤ 2 := by have := HJ.out; omega
              rcases Nat.lt_or_ge (k + 1 + j) bs.length with hjl | hjl
              · obtain ⟨q', off', hqo, hcell⟩ := (h.kept hm.2.1).b8_at (k + 1 + j) hjl
                simp only [Option.some.injEq, Addr.mk.injEq] at hqo
                obtain ⟨rfl, rfl, _⟩ := hqo
                obtain ⟨y0, y1⟩ := byt_at hb (k + 1 + j) hjl
                have hdr2 : (bs.drop (k + 1)).drop j = bs[k + 1 + j] :: (bs.drop (k + 1)).drop (j + 1) := by
                  rw [List.drop_drop, List.drop_drop, show k + 1 + (j + 1) = k + 1 + j + 1 by omega]
                  exact List.drop_eq_getElem_cons hjl
                generalize bs[k + 1 + j] = y at hcell y0 y1 hdr2
                have hmm := hmo.out
                rw [hdr2, more] at hmm
                by_cases hin : lo' ≤ y ∧ y ≤ hi'
                · rw [if_pos hin] at hmm
                  obtain ⟨hi1, hi2⟩ := hin
                  have hrb := rbound_step hj2 hr1 (show y % 64 < 64 by omega)
                  have hr2 := hrb.1
                  have hr3 : Hid (r * 64 + y % 64 < rbound (j + 1)) := hrb.2
                  have HM : Hid (more 2 lo hi (lead 2 x) (bs.drop (k + 1)) = more m 128 191 (r * 64 + y % 64) ((bs.drop (k + 1)).drop (j + 1))) := hmm
                  clear hmm hmo hdr2 hr1 hrb hlr
                  go_wp2
                  go_roundw
                  case rel => exact ⟨j + 1, m, 128, 191, r * 64 + y % 64, by have := HJ.out; omega, by omega, by go_num, by go_num, rfl, rfl, by go_num, HM, by omega, hr3.out, trivial⟩
                  case measure => simp [intOf]
                · rw [if_neg hin] at hmm
                  have HD : Hid (dec bs = (ms ++ [65533]) ++ dec (bs.drop (k + 1 + j))) := dec_cut hdr.out hd.out HX.out HF.out (hmm.trans (by rw [hdr2]))
                  obtain ⟨ao2, n2, c2, w2, hrun, hm2⟩ := hm.one Try.underlying26 info21 rfl (by decide) (.int .i32 65533) rfl (by rw [r32_len]; omega)
                  rw [r32_snoc] at hm2
                  clear hm h hd hdr hmm hmo hlr hdr2 hr1
                  rcases (show y < lo' ∨ (¬ y < lo' ∧ hi' < y) by omega) with hin | ⟨hin, hin2⟩
                  all_goals
                    go_wp2_with (at_builtin; refine Lib.wpList_append_run _ rfl _ _ _ _ rfl _ _ rfl rfl _ _ (hrun _) ?_)
                    go_roundw
                    case rel => exact ⟨k + 1 + j, ms ++ [65533], ao2, n2, c2, by omega, rfl, by go_num, hm2, HD⟩
                    case measure => simp [intOf]; omega
              · have hnil : (bs.drop (k + 1)).drop j = [] := List.drop_eq_nil_of_le (by omega)
                have hmm := hmo.out
                rw [hnil, more] at hmm
                have HD : Hid (dec bs = (ms ++ [65533]) ++ dec (bs.drop (k + 1 + j))) := dec_cut hdr.out hd.out HX.out HF.out (hmm.trans (by rw [hnil]))
                obtain ⟨ao2, n2, c2, w2, hrun, hm2⟩ := hm.one Try.underlying26 info21 rfl (by decide) (.int .i32 65533) rfl (by rw [r32_len]; omega)
                rw [r32_snoc] at hm2
                clear hm h hd hdr hmm hmo hlr hr1 hnil
                go_wp2_with (at_builtin; refine Lib.wpList_append_run _ rfl _ _ _ _ rfl _ _ rfl rfl _ _ (hrun _) ?_)
                go_roundw
                case rel => exact ⟨k + 1 + j, ms ++ [65533], ao2, n2, c2, by omega, rfl, by go_num, hm2, HD⟩
                case measure => simp [intOf]; omega
        · as_aux_lemma =>
          go_wp2_with fail
          refine HF1.mono ?_
          rintro e w1 ⟨rfl, rfl⟩
          clear HF1
          have hld : Hid (lead 3 x = x % 8) := rfl
          have hx0 : 0 ≤ x % 8 := by omega
          have hx1 : x % 8 < 32 := by omega
          have hand : bits .and .i32 x 7 = x % 8 := bits_mask .i32 31 (by decide) wraps_i32 3 (by decide) x x0 (by omega)
          go_wp2
          clear hcell hand
          generalize x % 8 = r0 at hld hx0 hx1 ⊢
          have hlr : (bs.drop (k + 1)).length = bs.length - (k + 1) := by simp
          go_loopw [4, 5, 6, 7, 8] (fun i nn u v rr wr => ∃ (j m : Nat) (lo' hi' r : Int), j + m = 3 ∧ k + 1 + j ≤ bs.length ∧ i = .int .i64 ((k : Int) + 1 + j) ∧ nn = .int .i64 (m : Int) ∧ u = .int .u8 lo' ∧ v = .int .u8 hi' ∧ rr = .int .i32 r ∧ Hid (more 3 lo hi (lead 3 x) (bs.drop (k + 1)) = more m lo' hi' r ((bs.drop (k + 1)).drop j)) ∧ 0 ≤ r ∧ r < rbound j ∧ wr = w1) (fun _ nn _ _ _ _ => (intOf nn).toNat)
          case atStart => exact ⟨0, 3, lo, hi, r0, by omega, by omega, by simp, rfl, rfl, rfl, rfl, by show _ = _; rw [hld.out]; rfl, hx0, hx1, rfl⟩
          case round =>
            obtain ⟨j, m, lo', hi', r, hjm, hjb, rfl, rfl, rfl, rfl, rfl, hmo, hr0, hr1, rfl⟩ := hrel
            have HJ : Hid (j + m = 3) := hjm
            clear hld hx0 hx1 hjm
            rcases m with _ | m
            · have hmm := hmo.out
              rw [more] at hmm
              have HD : Hid (dec bs = (ms ++ [r]) ++ dec (bs.drop (k + 1 + j))) := dec_whole hdr.out hd.out HX.out HF.out hmm
              obtain ⟨ao2, n2, c2, w2, hrun, hm2⟩ := hm.one Try.underlying26 info21 rfl (by decide) (.int .i32 r) rfl (by rw [r32_len]; omega)
              rw [r32_snoc] at hm2
              clear hm h hd hdr hmm hmo hlr
              go_wp2_with (at_builtin; refine Lib.wpList_append_run _ rfl _ _ _ _ rfl _ _ rfl rfl _ _ (hrun _) ?_)
              go_roundw
              case rel => exact ⟨k + 1 + j, ms ++ [r], ao2, n2, c2, by omega, rfl, by go_num, hm2, HD⟩
              case measure => simp [intOf]; omega
            · have hj2 : j ≤ 2 := by have := HJ.out; omega
              have hm3 : m ≤ 2 := by have := HJ.out; omega
              rcases Nat.lt_or_ge (k + 1 + j) bs.length with hjl | hjl
              · obtain ⟨q', off', hqo, hcell⟩ := (h.kept hm.2.1).b8_at (k + 1 + j) hjl
                simp only [Option.some.injEq, Addr.mk.injEq] at hqo
                obtain ⟨rfl, rfl, _⟩ := hqo
                obtain ⟨y0, y1⟩ := byt_at hb (k + 1 + j) hjl
                have hdr2 : (bs.drop (k + 1)).drop j = bs[k + 1 + j] :: (bs.drop (k + 1)).drop (j + 1) := by
                  rw [List.drop_drop, List.drop_drop, show k + 1 + (j + 1) = k + 1 + j + 1 by omega]
                  exact List.drop_eq_getElem_cons hjl
                generalize bs[k + 1 + j] = y at hcell y0 y1 hdr2
                have hmm := hmo.out
                rw [hdr2, more] at hmm
                by_cases hin : lo' ≤ y ∧ y ≤ hi'
                · rw [if_pos hin] at hmm
                  obtain ⟨hi1, hi2⟩ := hin
                  have hrb := rbound_step hj2 hr1 (show y % 64 < 64 by omega)
                  have hr2 := hrb.1
                  have hr3 : Hid (r * 64 + y % 64 < rbound (j + 1)) := hrb.2
                  have HM : Hid (more 3 lo hi (lead 3 x) (bs.drop (k + 1)) = more m 128 191 (r * 64 + y % 64) ((bs.drop (k + 1)).drop (j + 1))) := hmm
                  clear hmm hmo hdr2 hr1 hrb hlr
                  go_wp2
                  go_roundw
                  case rel => exact ⟨j + 1, m, 128, 191, r * 64 + y % 64, by have := HJ.out; omega, by omega, by go_num, by go_num, rfl, rfl, by go_num, HM, by omega, hr3.out, trivial⟩
                  case measure => simp [intOf]
                · rw [if_neg hin] at hmm
                  have HD : Hid (dec bs = (ms ++ [65533]) ++ dec (bs.drop (k + 1 + j))) := dec_cut hdr.out hd.out HX.out HF.out (hmm.trans (by rw [hdr2]))
                  obtain ⟨ao2, n2, c2, w2, hrun, hm2⟩ := hm.one Try.underlying26 info21 rfl (by decide) (.int .i32 65533) rfl (by rw [r32_len]; omega)
                  rw [r32_snoc] at hm2
                  clear hm h hd hdr hmm hmo hlr hdr2 hr1
                  rcases (show y < lo' ∨ (¬ y < lo' ∧ hi' < y) by omega) with hin | ⟨hin, hin2⟩
                  all_goals
                    go_wp2_with (at_builtin; refine Lib.wpList_append_run _ rfl _ _ _ _ rfl _ _ rfl rfl _ _ (hrun _) ?_)
                    go_roundw
                    case rel => exact ⟨k + 1 + j, ms ++ [65533], ao2, n2, c2, by omega, rfl, by go_num, hm2, HD⟩
                    case measure => simp [intOf]; omega
              · have hnil : (bs.drop (k + 1)).drop j = [] := List.drop_eq_nil_of_le (by omega)
                have hmm := hmo.out
                rw [hnil, more] at hmm
                have HD : Hid (dec bs = (ms ++ [65533]) ++ dec (bs.drop (k + 1 + j))) := dec_cut hdr.out hd.out HX.out HF.out (hmm.trans (by rw [hnil]))
                obtain ⟨ao2, n2, c2, w2, hrun, hm2⟩ := hm.one Try.underlying26 info21 rfl (by decide) (.int .i32 65533) rfl (by rw [r32_len]; omega)
                rw [r32_snoc] at hm2
                clear hm h hd hdr hmm hmo hlr hr1 hnil
                go_wp2_with (at_builtin; refine Lib.wpList_append_run _ rfl _ _ _ _ rfl _ _ rfl rfl _ _ (hrun _) ?_)
                go_roundw
                case rel => exact ⟨k + 1 + j, ms ++ [65533], ao2, n2, c2, by omega, rfl, by go_num, hm2, HD⟩
                case measure => simp [intOf]; omega
    · obtain rfl : k = bs.length := by omega
      have hd2 := hd.out
      rw [List.drop_length, dec_nil, List.append_nil] at hd2
      rw [← hd2] at hm
      clear hd2 hd h
      go_wp2
      go_ret
      exact ⟨ao', n', c', rfl, hm⟩

end Go.Proofs.Ytinafcajaikfdaa
