/-
  Digits of a number: the program's digit and digits, and the document's digits, of any text.
-/
import Derived.Test.YtgebdaanglmnnaaDoorRed
namespace Go.Proofs.YtgebdaanglmnnaaDoor
open Go.RowKit Utf

theorem dig_any (w : World) (x b : Int) (h : 0 ≤ x ∧ x < 256) : Calls Tryd.prog 86 #[.int .u8 x, .int .i64 b] w fun e w' => e = .returned (.tuple #[.int .i64 (hexv x), .bool (isD x b)]) ∧ w' = w := by
  obtain ⟨h1, h2⟩ := h
  have HH := hex_any w x
  cases hx : isHex x with
  | false =>
    rw [hx] at HH
    rw [show isD x b = false by simp [isD, hx]]
    clear hx
    go_enter Tryd.func86, Tryd.ntmps86
    go_wp2_with fail
    refine HH.mono ?_
    rintro e w1 ⟨rfl, rfl⟩
    clear HH
    go_wp2
    go_ret2
    exact ⟨rfl, rfl⟩
  | true =>
    rw [hx] at HH
    rw [show isD x b = decide (hexv x < b) by simp [isD, hx]]
    clear hx
    generalize hexv x = d at HH
    go_enter Tryd.func86, Tryd.ntmps86
    go_wp2_with fail
    refine HH.mono ?_
    rintro e w1 ⟨rfl, rfl⟩
    clear HH
    go_wp2
    go_ret2
    exact ⟨rfl, rfl⟩

theorem uv_next (s : ByteArray) (b : Int) {p q : Nat} (h : p ≤ q) : uv s b p (q + 1 - p) = uv s b p (q - p) * b + hexv (bt s q) := by
  rw [show q + 1 - p = (q - p) + 1 by omega, uv, show p + (q - p) = q by omega]

set_option maxHeartbeats 1000000 in
theorem digits_any (w : World) (s : ByteArray) (p : Nat) (b : Int) (hb : Tens b) (hp : p ≤ s.size) (hs : s.size ≤ 100000) : Calls Tryd.prog 81 #[.string s, .int .i64 p, .int .i64 b] w fun e w' => e = .returned (.tuple #[.int .i64 (cap (uv s b p (dend s b p - p))), .int .i64 (dend s b p : Int)]) ∧ w' = w := by
  have hb2 : 0 ≤ b ∧ b ≤ 16 := by rcases hb with rfl | rfl <;> omega
  go_enter Tryd.func81, Tryd.ntmps81
  go_wp2
  go_loopw [8, 9] (fun n i wr => ∃ (q : Nat) (m : Int), p ≤ q ∧ q ≤ s.size ∧ i = .int .i64 (q : Int) ∧ n = .int .i64 m ∧ wr = w ∧ Hid (m = cap (uv s b p (q - p))) ∧ Hid (∀ j, p ≤ j → j < q → isD (bt s j) b = true)) (fun _ i _ => s.size - (intOf i).toNat)
  case atStart => exact ⟨p, 0, Nat.le_refl _, hp, rfl, rfl, rfl, by rw [Nat.sub_self]; rfl, fun j h1 h2 => by omega⟩
  case round =>
    obtain ⟨q, m, hpq, hq, rfl, rfl, rfl, hm, hd⟩ := hrel
    have hm0 : 0 ≤ m ∧ m ≤ 1114112 := by rw [hm.out]; exact cap_range (uv_pos hb p _)
    obtain ⟨hm1, hm2⟩ := hm0
    by_cases hlt : q < s.size
    · have i1 := index_at s (q : Int) q rfl hlt
      have HC := dig_any wr (bt s q) b (bt_range s q)
      cases hx : isD (bt s q) b with
      | true =>
        have hd2 : Hid (∀ j, p ≤ j → j < q + 1 → isD (bt s j) b = true) := fun j h1 hj => by
          by_cases hjk : j = q
          · rw [hjk]; exact hx
          · exact hd.out j h1 (by omega)
        have hv := hexv_range (bt s q)
        have hn : Hid (cap (m * b + hexv (bt s q)) = cap (uv s b p (q + 1 - p))) := by
          show _ = _
          rw [hm.out, uv_next s b hpq]
          exact cap_step hb (uv_pos hb p _) hv.1
        rw [hx] at HC
        generalize bt s q = x at i1 HC hv hn
        generalize hexv x = d at HC hv hn
        obtain ⟨hv1, hv2⟩ := hv
        clear hx hd hm
        rcases hb with rfl | rfl
        · clear hb2
          by_cases hc : m * 10 + d ≤ 1114112
          · rw [show cap (m * 10 + d) = m * 10 + d by unfold cap; rw [if_pos hc]] at hn
            go_wp2_with fail
            refine HC.mono ?_
            rintro e w2 ⟨rfl, rfl⟩
            clear HC
            go_wp2
            go_roundw
            case rel => exact ⟨q + 1, m * 10 + d, by omega, by omega, by go_num, rfl, trivial, hn, hd2⟩
            case measure => simp [intOf]; omega
          · rw [show cap (m * 10 + d) = 1114112 by unfold cap; rw [if_neg hc]] at hn
            go_wp2_with fail
            refine HC.mono ?_
            rintro e w2 ⟨rfl, rfl⟩
            clear HC
            go_wp2
            go_roundw
            case rel => exact ⟨q + 1, 1114112, by omega, by omega, by go_num, rfl, trivial, hn, hd2⟩
            case measure => simp [intOf]; omega
        · clear hb2
          by_cases hc : m * 16 + d ≤ 1114112
          · rw [show cap (m * 16 + d) = m * 16 + d by unfold cap; rw [if_pos hc]] at hn
            go_wp2_with fail
            refine HC.mono ?_
            rintro e w2 ⟨rfl, rfl⟩
            clear HC
            go_wp2
            go_roundw
            case rel => exact ⟨q + 1, m * 16 + d, by omega, by omega, by go_num, rfl, trivial, hn, hd2⟩
            case measure => simp [intOf]; omega
          · rw [show cap (m * 16 + d) = 1114112 by unfold cap; rw [if_neg hc]] at hn
            go_wp2_with fail
            refine HC.mono ?_
            rintro e w2 ⟨rfl, rfl⟩
            clear HC
            go_wp2
            go_roundw
            case rel => exact ⟨q + 1, 1114112, by omega, by omega, by go_num, rfl, trivial, hn, hd2⟩
            case measure => simp [intOf]; omega
      | false =>
        have he : Hid (dend s b p = q) := fs_eq ⟨hpq, hq, fun j h1 h2 => by rw [hd.out j h1 h2]; rfl, fun _ => by rw [hx]; rfl⟩
        rw [hx] at HC
        generalize bt s q = x at i1 HC
        generalize hexv x = d at HC
        clear hx hd hb2
        go_wp2_with fail
        refine HC.mono ?_
        rintro e w2 ⟨rfl, rfl⟩
        clear HC
        go_wp2
        go_ret2
        rw [he.out, ← hm.out]
        exact ⟨rfl, rfl⟩
    · have he : Hid (dend s b p = q) := fs_eq ⟨hpq, hq, fun j h1 h2 => by rw [hd.out j h1 h2]; rfl, fun h => by omega⟩
      clear hd hb2
      go_wp2
      go_ret2
      rw [he.out, ← hm.out]
      exact ⟨rfl, rfl⟩

theorem isD_yes {x b : Int} (h : isD x b = true) : isHex x = true ∧ hexv x < b := by
  unfold isD at h
  simpa using h
theorem isD_no {x b : Int} (h : isD x b = false) : isHex x = false ∨ (isHex x = true ∧ ¬ hexv x < b) := by
  unfold isD at h
  cases hh : isHex x
  · exact Or.inl rfl
  · right
    rw [hh] at h
    exact ⟨rfl, by simpa using h⟩

set_option maxHeartbeats 1000000 in
theorem ref_digits_any (w : World) (s : ByteArray) (p : Nat) (b : Int) (hb : Tens b) (hp : p ≤ s.size) (hs : s.size ≤ 100000) : Calls Tryd.prog 64 #[.string s, .int .i64 p, .int .i64 b] w fun e w' => ∃ m, e = .returned (.tuple #[.int .i64 m, .int .i64 (dend s b p : Int)]) ∧ Near m (uv s b p (dend s b p - p)) ∧ w' = w := by
  have hb2 : 0 ≤ b ∧ b ≤ 16 := by rcases hb with rfl | rfl <;> omega
  go_enter Tryd.func64, Tryd.ntmps64
  go_wp2
  go_loopw [1, 8] (fun i n wr => ∃ (q : Nat) (m : Int), p ≤ q ∧ q ≤ s.size ∧ i = .int .i64 (q : Int) ∧ n = .int .i64 m ∧ wr = w ∧ Hid (Near m (uv s b p (q - p))) ∧ Hid (∀ j, p ≤ j → j < q → isD (bt s j) b = true)) (fun i _ _ => s.size - (intOf i).toNat)
  case atStart => exact ⟨p, 0, Nat.le_refl _, hp, rfl, rfl, rfl, by rw [Nat.sub_self]; exact Or.inl ⟨rfl, by rw [uv]; omega⟩, fun j h1 h2 => by omega⟩
  case round =>
    obtain ⟨q, m, hpq, hq, rfl, rfl, rfl, hm, hd⟩ := hrel
    obtain ⟨hm1, hm2⟩ := near_range hm.out (uv_pos hb p _)
    by_cases hlt : q < s.size
    · have i1 := index_at s (q : Int) q rfl hlt
      have HC := ref_hex_any wr (bt s q)
      obtain ⟨r1, r2⟩ := bt_range s q
      cases hx : isD (bt s q) b with
      | true =>
        have hd2 : Hid (∀ j, p ≤ j → j < q + 1 → isD (bt s j) b = true) := fun j h1 hj => by
          by_cases hjk : j = q
          · rw [hjk]; exact hx
          · exact hd.out j h1 (by omega)
        have hv := hexv_range (bt s q)
        have hn : Hid (Near (if m ≤ 1114111 then m * b + hexv (bt s q) else m) (uv s b p (q + 1 - p))) := by
          show Near _ _
          rw [uv_next s b hpq]
          exact near_step hb (uv_pos hb p _) hv hm.out
        obtain ⟨hh, hw⟩ := isD_yes hx
        rw [hh] at HC
        clear hx hh
        generalize bt s q = x at i1 HC hv hn hw r1 r2
        generalize hexv x = d at HC hv hn hw
        obtain ⟨hv1, hv2⟩ := hv
        clear hd hm hb2
        rcases hb with rfl | rfl
        · have hm3 : 0 ≤ m * 10 + d := by omega
          by_cases hc : m ≤ 1114111
          · rw [if_pos hc] at hn
            go_wp2_with fail
            refine HC.mono ?_
            rintro e w2 ⟨rfl, rfl⟩
            clear HC
            go_wp2
            go_roundw
            case rel => exact ⟨q + 1, m * 10 + d, by omega, by omega, by go_num, rfl, trivial, hn, hd2⟩
            case measure => simp [intOf]; omega
          · rw [if_neg hc] at hn
            go_wp2_with fail
            refine HC.mono ?_
            rintro e w2 ⟨rfl, rfl⟩
            clear HC
            go_wp2
            go_roundw
            case rel => exact ⟨q + 1, m, by omega, by omega, by go_num, rfl, trivial, hn, hd2⟩
            case measure => simp [intOf]; omega
        · have hm3 : 0 ≤ m * 16 + d := by omega
          by_cases hc : m ≤ 1114111
          · rw [if_pos hc] at hn
            go_wp2_with fail
            refine HC.mono ?_
            rintro e w2 ⟨rfl, rfl⟩
            clear HC
            go_wp2
            go_roundw
            case rel => exact ⟨q + 1, m * 16 + d, by omega, by omega, by go_num, rfl, trivial, hn, hd2⟩
            case measure => simp [intOf]; omega
          · rw [if_neg hc] at hn
            go_wp2_with fail
            refine HC.mono ?_
            rintro e w2 ⟨rfl, rfl⟩
            clear HC
            go_wp2
            go_roundw
            case rel => exact ⟨q + 1, m, by omega, by omega, by go_num, rfl, trivial, hn, hd2⟩
            case measure => simp [intOf]; omega
      | false =>
        have he : Hid (dend s b p = q) := fs_eq ⟨hpq, hq, fun j h1 h2 => by rw [hd.out j h1 h2]; rfl, fun _ => by rw [hx]; rfl⟩
        rcases isD_no hx with hh | ⟨hh, hw⟩
        · rw [hh] at HC
          clear hx hh
          generalize bt s q = x at i1 HC r1 r2
          generalize hexv x = d at HC
          clear hd hb2
          go_wp2_with fail
          refine HC.mono ?_
          rintro e w2 ⟨rfl, rfl⟩
          clear HC
          go_wp2
          go_ret2
          rw [he.out]
          exact ⟨m, rfl, hm.out, rfl⟩
        · rw [hh] at HC
          clear hx hh
          generalize bt s q = x at i1 HC r1 r2 hw
          generalize hexv x = d at HC hw
          clear hd hb2
          go_wp2_with fail
          refine HC.mono ?_
          rintro e w2 ⟨rfl, rfl⟩
          clear HC
          go_wp2
          go_ret2
          rw [he.out]
          exact ⟨m, rfl, hm.out, rfl⟩
    · have he : Hid (dend s b p = q) := fs_eq ⟨hpq, hq, fun j h1 h2 => by rw [hd.out j h1 h2]; rfl, fun h => by omega⟩
      clear hd hb2
      go_wp2
      go_ret2
      rw [he.out]
      exact ⟨m, rfl, hm.out, rfl⟩

end Go.Proofs.YtgebdaanglmnnaaDoor
