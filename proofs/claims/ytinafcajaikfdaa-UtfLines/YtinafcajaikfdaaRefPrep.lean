/-
  Bytes, made ready: the document's Prepare.
-/
import Derived.Test.YtinafcajaikfdaaPrep
namespace Go.Proofs.Ytinafcajaikfdaa
open Go.RowKit Utf

set_option maxHeartbeats 8000000 in
set_option maxRecDepth 100000 in
theorem ref_prepare_any (w : World) (ao : Option Addr) (n c : Nat) (bs : List Int) (h : Rb w ao n c (b8 bs)) (hb : byt bs) (hl : n ≤ 100000) :
    Calls Try.prog 20 #[.slice ao n c] w fun e w' => e = .returned (.string (strOfNums (encs (prep bs)))) ∧ Kp [] w w' := by
  have hln := h.len
  rw [b8_len] at hln
  have hc := h.cap
  have hby := byt_strip hb
  have hdl : (dec (strip bs)).length ≤ 100000 := by
    have h2 := dec_len _ (strip bs) (Nat.le_refl _)
    have h3 := strip_len bs
    omega
  have hpi := prep_int hb
  have hpl := prep_len bs
  have hsl := strip_len bs
  obtain ⟨rs, hrs⟩ : ∃ rs, rs = dec (strip bs) := ⟨_, rfl⟩
  have hpr : prep bs = lines rs := by rw [hrs]; rfl
  rw [hpr] at hpi hpl ⊢
  rw [← hrs] at hdl
  by_cases h3 : 3 ≤ n
  · obtain ⟨q, off, rfl, c0⟩ := h.b8_at 0 (by omega)
    obtain ⟨q', off', hqo, c1⟩ := h.b8_at 1 (by omega)
    simp only [Option.some.injEq, Addr.mk.injEq] at hqo
    obtain ⟨rfl, rfl, _⟩ := hqo
    obtain ⟨q', off', hqo, c2⟩ := h.b8_at 2 (by omega)
    simp only [Option.some.injEq, Addr.mk.injEq] at hqo
    obtain ⟨rfl, rfl, _⟩ := hqo
    have c00 : w.cell? ⟨q, off, none⟩ = some (.int .u8 bs[0]) := by simpa using c0
    clear c0
    have htk : bs.take 3 = [bs[0], bs[1], bs[2]] := by
      apply List.ext_getElem
      · simp; omega
      · intro i h1 h2
        simp only [List.getElem_take]
        simp at h2
        match i, h2 with
        | 0, _ => rfl
        | 1, _ => rfl
        | 2, _ => rfl
    have hdr := h.drop 3 h3
    rw [b8_drop] at hdr
    generalize bs[0] = x0 at c00 htk
    generalize bs[1] = x1 at c1 htk
    generalize bs[2] = x2 at c2 htk
    by_cases e0 : x0 = 239
    · subst e0
      by_cases e1 : x1 = 187
      · subst e1
        by_cases e2 : x2 = 191
        · subst e2
          rw [← strip_yes htk] at hdr
          unfold offAt at hdr
          simp only [Option.map, Addr.add_lit] at hdr
          clear h htk hln hpr
          by_cases hc3 : c = 3
          · rw [if_pos hc3] at hdr
            obtain rfl : n = 3 := by omega
            subst hc3
            have HD := ref_decode_any _ _ _ _ _ hdr hby (by omega)
            rw [← hrs] at HD
            clear hdr hrs
            as_aux_lemma =>
              go_enter Try.func20, Try.ntmps20
              go_wp2_with fail
              refine HD.mono ?_
              rintro e w1 ⟨ao1, n1, c1', rfl, hm⟩
              have hr1 := hm.rb
              obtain rfl : n1 = rs.length := by rw [hr1.len, r32_len]
              have kp1 := hm.2.1
              clear HD hm
              go_wp2
              go_loopw [4, 5] (fun v i wr => ∃ (k : Nat) (ms : List Int) (ao' : Option Addr) (n' c' : Nat), k ≤ rs.length ∧ ms.length ≤ k ∧ v = .slice ao' n' c' ∧ i = .int .i64 k ∧ Made w1 wr 21 ao' n' c' (r32 ms) ∧ Hid (lines rs = ms ++ lines (rs.drop k))) (fun _ i _ => rs.length - (intOf i).toNat)
              case atStart => exact ⟨0, [], none, 0, 0, Nat.zero_le _, Nat.le_refl _, rfl, rfl, Made.nil w1 21, rfl⟩
              case round =>
                obtain ⟨k, ms, ao', n', c', hk, hmk, rfl, rfl, hm, hd⟩ := hrel
                by_cases hlt : k < rs.length
                · obtain ⟨g, o, rfl, hcell⟩ := (hr1.kept hm.2.1).r32_at k hlt
                  have hla := lines_at hlt
                  by_cases h13 : rs[k] = 13
                  · rw [h13] at hcell
                    rw [if_pos h13] at hla
                    clear h13
                    by_cases hn1 : k + 1 < rs.length
                    · obtain ⟨g', o', hgo, hcell2⟩ := (hr1.kept hm.2.1).r32_at (k + 1) hn1
                      simp only [Option.some.injEq, Addr.mk.injEq] at hgo
                      obtain ⟨rfl, rfl, _⟩ := hgo
                      rw [head_drop hn1] at hla
                      generalize rs[k + 1] = y at hcell2 hla
                      by_cases hy : y = 10
                      · subst hy
                        rw [if_pos rfl] at hla
                        have HD : Hid (lines rs = ms ++ lines (rs.drop (k + 1))) := by
                          show _ = _
                          rw [hd.out, hla]
                        clear hla hd hr1
                        go_wp2
                        go_roundw
                        case rel => exact ⟨k + 1, ms, ao', n', c', by omega, by omega, rfl, by go_num, hm, HD⟩
                        case measure => simp [intOf]; omega
                      · rw [if_neg (by simpa using hy)] at hla
                        have HD : Hid (lines rs = (ms ++ [10]) ++ lines (rs.drop (k + 1))) := by
                          show _ = _
                          rw [hd.out, hla]
                          simp
                        obtain ⟨ao2, n2, c2', w2, hrun, hm2⟩ := hm.one Try.underlying26 info21 rfl (by decide) (.int .i32 10) rfl (by rw [r32_len]; omega)
                        rw [r32_snoc] at hm2
                        clear hla hd hr1 hm
                        go_wp2_with (at_builtin; refine Lib.wpList_append_run _ rfl _ _ _ _ rfl _ _ rfl rfl _ _ (hrun _) ?_)
                        go_roundw
                        case rel => exact ⟨k + 1, ms ++ [10], ao2, n2, c2', by omega, by simp; omega, rfl, by go_num, hm2, HD⟩
                        case measure => simp [intOf]; omega
                    · have hnil : rs.drop (k + 1) = [] := List.drop_eq_nil_of_le (by omega)
                      have HD : Hid (lines rs = (ms ++ [10]) ++ lines (rs.drop (k + 1))) := by
                        show _ = _
                        rw [hd.out, hla, hnil]
                        simp
                      obtain ⟨ao2, n2, c2', w2, hrun, hm2⟩ := hm.one Try.underlying26 info21 rfl (by decide) (.int .i32 10) rfl (by rw [r32_len]; omega)
                      rw [r32_snoc] at hm2
                      clear hla hd hr1 hm hnil
                      go_wp2_with (at_builtin; refine Lib.wpList_append_run _ rfl _ _ _ _ rfl _ _ rfl rfl _ _ (hrun _) ?_)
                      go_roundw
                      case rel => exact ⟨k + 1, ms ++ [10], ao2, n2, c2', by omega, by simp; omega, rfl, by go_num, hm2, HD⟩
                      case measure => simp [intOf]; omega
                  · rw [if_neg h13] at hla
                    by_cases h0 : rs[k] = 0
                    · rw [h0] at hcell
                      rw [if_pos h0] at hla
                      clear h0 h13
                      have HD : Hid (lines rs = (ms ++ [65533]) ++ lines (rs.drop (k + 1))) := by
                        show _ = _
                        rw [hd.out, hla]
                        simp
                      obtain ⟨ao2, n2, c2', w2, hrun, hm2⟩ := hm.one Try.underlying26 info21 rfl (by decide) (.int .i32 65533) rfl (by rw [r32_len]; omega)
                      rw [r32_snoc] at hm2
                      clear hla hd hr1 hm
                      go_wp2_with (at_builtin; refine Lib.wpList_append_run _ rfl _ _ _ _ rfl _ _ rfl rfl _ _ (hrun _) ?_)
                      go_roundw
                      case rel => exact ⟨k + 1, ms ++ [65533], ao2, n2, c2', by omega, by simp; omega, rfl, by go_num, hm2, HD⟩
                      case measure => simp [intOf]; omega
                    · rw [if_neg h0] at hla
                      generalize rs[k] = x at hcell hla h13 h0
                      have HD : Hid (lines rs = (ms ++ [x]) ++ lines (rs.drop (k + 1))) := by
                        show _ = _
                        rw [hd.out, hla]
                        simp
                      obtain ⟨ao2, n2, c2', w2, hrun, hm2⟩ := hm.one Try.underlying26 info21 rfl (by decide) (.int .i32 x) rfl (by rw [r32_len]; omega)
                      rw [r32_snoc] at hm2
                      clear hla hd hr1 hm
                      go_wp2_with (at_builtin; refine Lib.wpList_append_run _ rfl _ _ _ _ rfl _ _ rfl rfl _ _ (hrun _) ?_)
                      go_roundw
                      case rel => exact ⟨k + 1, ms ++ [x], ao2, n2, c2', by omega, by simp; omega, rfl, by go_num, hm2, HD⟩
                      case measure => simp [intOf]; omega
                · obtain rfl : k = rs.length := by omega
                  have hd2 := hd.out
                  rw [List.drop_length, show lines ([] : List Int) = [] from rfl, List.append_nil] at hd2
                  have hr2 := hm.rb
                  have HN : n' ≤ 100000 := by
                    rw [hr2.len, r32_len]
                    omega
                  have kp2 := kp1.trans hm.2.1 (fun x hx => by simp at hx)
                  rw [← hd2] at hr2
                  have HE := ref_encode_any wr ao' n' c' (lines rs) hr2 HN
                  clear hd2 hd hr2 hm hr1 kp1
                  go_wp2_with fail
                  refine HE.mono ?_
                  rintro e w5 ⟨rfl, rfl⟩
                  clear HE
                  go_wp2
                  go_ret
                  exact ⟨rfl, kp2⟩
          · rw [if_neg hc3] at hdr
            have HD := ref_decode_any _ _ _ _ _ hdr hby (by omega)
            rw [← hrs] at HD
            clear hdr hrs
            as_aux_lemma =>
              go_enter Try.func20, Try.ntmps20
              go_wp2_with fail
              refine HD.mono ?_
              rintro e w1 ⟨ao1, n1, c1', rfl, hm⟩
              have hr1 := hm.rb
              obtain rfl : n1 = rs.length := by rw [hr1.len, r32_len]
              have kp1 := hm.2.1
              clear HD hm
              go_wp2
              go_loopw [4, 5] (fun v i wr => ∃ (k : Nat) (ms : List Int) (ao' : Option Addr) (n' c' : Nat), k ≤ rs.length ∧ ms.length ≤ k ∧ v = .slice ao' n' c' ∧ i = .int .i64 k ∧ Made w1 wr 21 ao' n' c' (r32 ms) ∧ Hid (lines rs = ms ++ lines (rs.drop k))) (fun _ i _ => rs.length - (intOf i).toNat)
              case atStart => exact ⟨0, [], none, 0, 0, Nat.zero_le _, Nat.le_refl _, rfl, rfl, Made.nil w1 21, rfl⟩
              case round =>
                obtain ⟨k, ms, ao', n', c', hk, hmk, rfl, rfl, hm, hd⟩ := hrel
                by_cases hlt : k < rs.length
                · obtain ⟨g, o, rfl, hcell⟩ := (hr1.kept hm.2.1).r32_at k hlt
                  have hla := lines_at hlt
                  by_cases h13 : rs[k] = 13
                  · rw [h13] at hcell
                    rw [if_pos h13] at hla
                    clear h13
                    by_cases hn1 : k + 1 < rs.length
                    · obtain ⟨g', o', hgo, hcell2⟩ := (hr1.kept hm.2.1).r32_at (k + 1) hn1
                      simp only [Option.some.injEq, Addr.mk.injEq] at hgo
                      obtain ⟨rfl, rfl, _⟩ := hgo
                      rw [head_drop hn1] at hla
                      generalize rs[k + 1] = y at hcell2 hla
                      by_cases hy : y = 10
                      · subst hy
                        rw [if_pos rfl] at hla
                        have HD : Hid (lines rs = ms ++ lines (rs.drop (k + 1))) := by
                          show _ = _
                          rw [hd.out, hla]
                        clear hla hd hr1
                        go_wp2
                        go_roundw
                        case rel => exact ⟨k + 1, ms, ao', n', c', by omega, by omega, rfl, by go_num, hm, HD⟩
                        case measure => simp [intOf]; omega
                      · rw [if_neg (by simpa using hy)] at hla
                        have HD : Hid (lines rs = (ms ++ [10]) ++ lines (rs.drop (k + 1))) := by
                          show _ = _
                          rw [hd.out, hla]
                          simp
                        obtain ⟨ao2, n2, c2', w2, hrun, hm2⟩ := hm.one Try.underlying26 info21 rfl (by decide) (.int .i32 10) rfl (by rw [r32_len]; omega)
                        rw [r32_snoc] at hm2
                        clear hla hd hr1 hm
                        go_wp2_with (at_builtin; refine Lib.wpList_append_run _ rfl _ _ _ _ rfl _ _ rfl rfl _ _ (hrun _) ?_)
                        go_roundw
                        case rel => exact ⟨k + 1, ms ++ [10], ao2, n2, c2', by omega, by simp; omega, rfl, by go_num, hm2, HD⟩
                        case measure => simp [intOf]; omega
                    · have hnil : rs.drop (k + 1) = [] := List.drop_eq_nil_of_le (by omega)
                      have HD : Hid (lines rs = (ms ++ [10]) ++ lines (rs.drop (k + 1))) := by
                        show _ = _
                        rw [hd.out, hla, hnil]
                        simp
                      obtain ⟨ao2, n2, c2', w2, hrun, hm2⟩ := hm.one Try.underlying26 info21 rfl (by decide) (.int .i32 10) rfl (by rw [r32_len]; omega)
                      rw [r32_snoc] at hm2
                      clear hla hd hr1 hm hnil
                      go_wp2_with (at_builtin; refine Lib.wpList_append_run _ rfl _ _ _ _ rfl _ _ rfl rfl _ _ (hrun _) ?_)
                      go_roundw
                      case rel => exact ⟨k + 1, ms ++ [10], ao2, n2, c2', by omega, by simp; omega, rfl, by go_num, hm2, HD⟩
                      case measure => simp [intOf]; omega
                  · rw [if_neg h13] at hla
                    by_cases h0 : rs[k] = 0
                    · rw [h0] at hcell
                      rw [if_pos h0] at hla
                      clear h0 h13
                      have HD : Hid (lines rs = (ms ++ [65533]) ++ lines (rs.drop (k + 1))) := by
                        show _ = _
                        rw [hd.out, hla]
                        simp
                      obtain ⟨ao2, n2, c2', w2, hrun, hm2⟩ := hm.one Try.underlying26 info21 rfl (by decide) (.int .i32 65533) rfl (by rw [r32_len]; omega)
                      rw [r32_snoc] at hm2
                      clear hla hd hr1 hm
                      go_wp2_with (at_builtin; refine Lib.wpList_append_run _ rfl _ _ _ _ rfl _ _ rfl rfl _ _ (hrun _) ?_)
                      go_roundw
                      case rel => exact ⟨k + 1, ms ++ [65533], ao2, n2, c2', by omega, by simp; omega, rfl, by go_num, hm2, HD⟩
                      case measure => simp [intOf]; omega
                    · rw [if_neg h0] at hla
                      generalize rs[k] = x at hcell hla h13 h0
                      have HD : Hid (lines rs = (ms ++ [x]) ++ lines (rs.drop (k + 1))) := by
                        show _ = _
                        rw [hd.out, hla]
                        simp
                      obtain ⟨ao2, n2, c2', w2, hrun, hm2⟩ := hm.one Try.underlying26 info21 rfl (by decide) (.int .i32 x) rfl (by rw [r32_len]; omega)
                      rw [r32_snoc] at hm2
                      clear hla hd hr1 hm
                      go_wp2_with (at_builtin; refine Lib.wpList_append_run _ rfl _ _ _ _ rfl _ _ rfl rfl _ _ (hrun _) ?_)
                      go_roundw
                      case rel => exact ⟨k + 1, ms ++ [x], ao2, n2, c2', by omega, by simp; omega, rfl, by go_num, hm2, HD⟩
                      case measure => simp [intOf]; omega
                · obtain rfl : k = rs.length := by omega
                  have hd2 := hd.out
                  rw [List.drop_length, show lines ([] : List Int) = [] from rfl, List.append_nil] at hd2
                  have hr2 := hm.rb
                  have HN : n' ≤ 100000 := by
                    rw [hr2.len, r32_len]
                    omega
                  have kp2 := kp1.trans hm.2.1 (fun x hx => by simp at hx)
                  rw [← hd2] at hr2
                  have HE := ref_encode_any wr ao' n' c' (lines rs) hr2 HN
                  clear hd2 hd hr2 hm hr1 kp1
                  go_wp2_with fail
                  refine HE.mono ?_
                  rintro e w5 ⟨rfl, rfl⟩
                  clear HE
                  go_wp2
                  go_ret
                  exact ⟨rfl, kp2⟩
        · have hne : strip bs = bs := strip_no (by rw [htk]; simp [mark, e2])
          rw [← hne] at h
          have HD := ref_decode_any _ _ _ _ _ h hby (by omega)
          rw [← hrs] at HD
          clear h hrs hne htk hdr hln hpr
          as_aux_lemma =>
            go_enter Try.func20, Try.ntmps20
            go_wp2_with fail
            refine HD.mono ?_
            rintro e w1 ⟨ao1, n1, c1', rfl, hm⟩
            have hr1 := hm.rb
            obtain rfl : n1 = rs.length := by rw [hr1.len, r32_len]
            have kp1 := hm.2.1
            clear HD hm
            go_wp2
            go_loopw [4, 5] (fun v i wr => ∃ (k : Nat) (ms : List Int) (ao' : Option Addr) (n' c' : Nat), k ≤ rs.length ∧ ms.length ≤ k ∧ v = .slice ao' n' c' ∧ i = .int .i64 k ∧ Made w1 wr 21 ao' n' c' (r32 ms) ∧ Hid (lines rs = ms ++ lines (rs.drop k))) (fun _ i _ => rs.length - (intOf i).toNat)
            case atStart => exact ⟨0, [], none, 0, 0, Nat.zero_le _, Nat.le_refl _, rfl, rfl, Made.nil w1 21, rfl⟩
            case round =>
              obtain ⟨k, ms, ao', n', c', hk, hmk, rfl, rfl, hm, hd⟩ := hrel
              by_cases hlt : k < rs.length
              · obtain ⟨g, o, rfl, hcell⟩ := (hr1.kept hm.2.1).r32_at k hlt
                have hla := lines_at hlt
                by_cases h13 : rs[k] = 13
                · rw [h13] at hcell
                  rw [if_pos h13] at hla
                  clear h13
                  by_cases hn1 : k + 1 < rs.length
                  · obtain ⟨g', o', hgo, hcell2⟩ := (hr1.kept hm.2.1).r32_at (k + 1) hn1
                    simp only [Option.some.injEq, Addr.mk.injEq] at hgo
                    obtain ⟨rfl, rfl, _⟩ := hgo
                    rw [head_drop hn1] at hla
                    generalize rs[k + 1] = y at hcell2 hla
                    by_cases hy : y = 10
                    · subst hy
                      rw [if_pos rfl] at hla
                      have HD : Hid (lines rs = ms ++ lines (rs.drop (k + 1))) := by
                        show _ = _
                        rw [hd.out, hla]
                      clear hla hd hr1
                      go_wp2
                      go_roundw
                      case rel => exact ⟨k + 1, ms, ao', n', c', by omega, by omega, rfl, by go_num, hm, HD⟩
                      case measure => simp [intOf]; omega
                    · rw [if_neg (by simpa using hy)] at hla
                      have HD : Hid (lines rs = (ms ++ [10]) ++ lines (rs.drop (k + 1))) := by
                        show _ = _
                        rw [hd.out, hla]
                        simp
                      obtain ⟨ao2, n2, c2', w2, hrun, hm2⟩ := hm.one Try.underlying26 info21 rfl (by decide) (.int .i32 10) rfl (by rw [r32_len]; omega)
                      rw [r32_snoc] at hm2
                      clear hla hd hr1 hm
                      go_wp2_with (at_builtin; refine Lib.wpList_append_run _ rfl _ _ _ _ rfl _ _ rfl rfl _ _ (hrun _) ?_)
                      go_roundw
                      case rel => exact ⟨k + 1, ms ++ [10], ao2, n2, c2', by omega, by simp; omega, rfl, by go_num, hm2, HD⟩
                      case measure => simp [intOf]; omega
                  · have hnil : rs.drop (k + 1) = [] := List.drop_eq_nil_of_le (by omega)
                    have HD : Hid (lines rs = (ms ++ [10]) ++ lines (rs.drop (k + 1))) := by
                      show _ = _
                      rw [hd.out, hla, hnil]
                      simp
                    obtain ⟨ao2, n2, c2', w2, hrun, hm2⟩ := hm.one Try.underlying26 info21 rfl (by decide) (.int .i32 10) rfl (by rw [r32_len]; omega)
                    rw [r32_snoc] at hm2
                    clear hla hd hr1 hm hnil
                    go_wp2_with (at_builtin; refine Lib.wpList_append_run _ rfl _ _ _ _ rfl _ _ rfl rfl _ _ (hrun _) ?_)
                    go_roundw
                    case rel => exact ⟨k + 1, ms ++ [10], ao2, n2, c2', by omega, by simp; omega, rfl, by go_num, hm2, HD⟩
                    case measure => simp [intOf]; omega
                · rw [if_neg h13] at hla
                  by_cases h0 : rs[k] = 0
                  · rw [h0] at hcell
                    rw [if_pos h0] at hla
                    clear h0 h13
                    have HD : Hid (lines rs = (ms ++ [65533]) ++ lines (rs.drop (k + 1))) := by
                      show _ = _
                      rw [hd.out, hla]
                      simp
                    obtain ⟨ao2, n2, c2', w2, hrun, hm2⟩ := hm.one Try.underlying26 info21 rfl (by decide) (.int .i32 65533) rfl (by rw [r32_len]; omega)
                    rw [r32_snoc] at hm2
                    clear hla hd hr1 hm
                    go_wp2_with (at_builtin; refine Lib.wpList_append_run _ rfl _ _ _ _ rfl _ _ rfl rfl _ _ (hrun _) ?_)
                    go_roundw
                    case rel => exact ⟨k + 1, ms ++ [65533], ao2, n2, c2', by omega, by simp; omega, rfl, by go_num, hm2, HD⟩
                    case measure => simp [intOf]; omega
                  · rw [if_neg h0] at hla
                    generalize rs[k] = x at hcell hla h13 h0
                    have HD : Hid (lines rs = (ms ++ [x]) ++ lines (rs.drop (k + 1))) := by
                      show _ = _
                      rw [hd.out, hla]
                      simp
                    obtain ⟨ao2, n2, c2', w2, hrun, hm2⟩ := hm.one Try.underlying26 info21 rfl (by decide) (.int .i32 x) rfl (by rw [r32_len]; omega)
                    rw [r32_snoc] at hm2
                    clear hla hd hr1 hm
                    go_wp2_with (at_builtin; refine Lib.wpList_append_run _ rfl _ _ _ _ rfl _ _ rfl rfl _ _ (hrun _) ?_)
                    go_roundw
                    case rel => exact ⟨k + 1, ms ++ [x], ao2, n2, c2', by omega, by simp; omega, rfl, by go_num, hm2, HD⟩
                    case measure => simp [intOf]; omega
              · obtain rfl : k = rs.length := by omega
                have hd2 := hd.out
                rw [List.drop_length, show lines ([] : List Int) = [] from rfl, List.append_nil] at hd2
                have hr2 := hm.rb
                have HN : n' ≤ 100000 := by
                  rw [hr2.len, r32_len]
                  omega
                have kp2 := kp1.trans hm.2.1 (fun x hx => by simp at hx)
                rw [← hd2] at hr2
                have HE := ref_encode_any wr ao' n' c' (lines rs) hr2 HN
                clear hd2 hd hr2 hm hr1 kp1
                go_wp2_with fail
                refine HE.mono ?_
                rintro e w5 ⟨rfl, rfl⟩
                clear HE
                go_wp2
                go_ret
                exact ⟨rfl, kp2⟩
      · have hne : strip bs = bs := strip_no (by rw [htk]; simp [mark, e1])
        rw [← hne] at h
        have HD := ref_decode_any _ _ _ _ _ h hby (by omega)
        rw [← hrs] at HD
        clear h hrs hne htk hdr hln hpr
        as_aux_lemma =>
          go_enter Try.func20, Try.ntmps20
          go_wp2_with fail
          refine HD.mono ?_
          rintro e w1 ⟨ao1, n1, c1', rfl, hm⟩
          have hr1 := hm.rb
          obtain rfl : n1 = rs.length := by rw [hr1.len, r32_len]
          have kp1 := hm.2.1
          clear HD hm
          go_wp2
          go_loopw [4, 5] (fun v i wr => ∃ (k : Nat) (ms : List Int) (ao' : Option Addr) (n' c' : Nat), k ≤ rs.length ∧ ms.length ≤ k ∧ v = .slice ao' n' c' ∧ i = .int .i64 k ∧ Made w1 wr 21 ao' n' c' (r32 ms) ∧ Hid (lines rs = ms ++ lines (rs.drop k))) (fun _ i _ => rs.length - (intOf i).toNat)
          case atStart => exact ⟨0, [], none, 0, 0, Nat.zero_le _, Nat.le_refl _, rfl, rfl, Made.nil w1 21, rfl⟩
          case round =>
            obtain ⟨k, ms, ao', n', c', hk, hmk, rfl, rfl, hm, hd⟩ := hrel
            by_cases hlt : k < rs.length
            · obtain ⟨g, o, rfl, hcell⟩ := (hr1.kept hm.2.1).r32_at k hlt
              have hla := lines_at hlt
              by_cases h13 : rs[k] = 13
              · rw [h13] at hcell
                rw [if_pos h13] at hla
                clear h13
                by_cases hn1 : k + 1 < rs.length
                · obtain ⟨g', o', hgo, hcell2⟩ := (hr1.kept hm.2.1).r32_at (k + 1) hn1
                  simp only [Option.some.injEq, Addr.mk.injEq] at hgo
                  obtain ⟨rfl, rfl, _⟩ := hgo
                  rw [head_drop hn1] at hla
                  generalize rs[k + 1] = y at hcell2 hla
                  by_cases hy : y = 10
                  · subst hy
                    rw [if_pos rfl] at hla
                    have HD : Hid (lines rs = ms ++ lines (rs.drop (k + 1))) := by
                      show _ = _
                      rw [hd.out, hla]
                    clear hla hd hr1
                    go_wp2
                    go_roundw
                    case rel => exact ⟨k + 1, ms, ao', n', c', by omega, by omega, rfl, by go_num, hm, HD⟩
                    case measure => simp [intOf]; omega
                  · rw [if_neg (by simpa using hy)] at hla
                    have HD : Hid (lines rs = (ms ++ [10]) ++ lines (rs.drop (k + 1))) := by
                      show _ = _
                      rw [hd.out, hla]
                      simp
                    obtain ⟨ao2, n2, c2', w2, hrun, hm2⟩ := hm.one Try.underlying26 info21 rfl (by decide) (.int .i32 10) rfl (by rw [r32_len]; omega)
                    rw [r32_snoc] at hm2
                    clear hla hd hr1 hm
                    go_wp2_with (at_builtin; refine Lib.wpList_append_run _ rfl _ _ _ _ rfl _ _ rfl rfl _ _ (hrun _) ?_)
                    go_roundw
                    case rel => exact ⟨k + 1, ms ++ [10], ao2, n2, c2', by omega, by simp; omega, rfl, by go_num, hm2, HD⟩
                    case measure => simp [intOf]; omega
                · have hnil : rs.drop (k + 1) = [] := List.drop_eq_nil_of_le (by omega)
                  have HD : Hid (lines rs = (ms ++ [10]) ++ lines (rs.drop (k + 1))) := by
                    show _ = _
                    rw [hd.out, hla, hnil]
                    simp
                  obtain ⟨ao2, n2, c2', w2, hrun, hm2⟩ := hm.one Try.underlying26 info21 rfl (by decide) (.int .i32 10) rfl (by rw [r32_len]; omega)
                  rw [r32_snoc] at hm2
                  clear hla hd hr1 hm hnil
                  go_wp2_with (at_builtin; refine Lib.wpList_append_run _ rfl _ _ _ _ rfl _ _ rfl rfl _ _ (hrun _) ?_)
                  go_roundw
                  case rel => exact ⟨k + 1, ms ++ [10], ao2, n2, c2', by omega, by simp; omega, rfl, by go_num, hm2, HD⟩
                  case measure => simp [intOf]; omega
              · rw [if_neg h13] at hla
                by_cases h0 : rs[k] = 0
                · rw [h0] at hcell
                  rw [if_pos h0] at hla
                  clear h0 h13
                  have HD : Hid (lines rs = (ms ++ [65533]) ++ lines (rs.drop (k + 1))) := by
                    show _ = _
                    rw [hd.out, hla]
                    simp
                  obtain ⟨ao2, n2, c2', w2, hrun, hm2⟩ := hm.one Try.underlying26 info21 rfl (by decide) (.int .i32 65533) rfl (by rw [r32_len]; omega)
                  rw [r32_snoc] at hm2
                  clear hla hd hr1 hm
                  go_wp2_with (at_builtin; refine Lib.wpList_append_run _ rfl _ _ _ _ rfl _ _ rfl rfl _ _ (hrun _) ?_)
                  go_roundw
                  case rel => exact ⟨k + 1, ms ++ [65533], ao2, n2, c2', by omega, by simp; omega, rfl, by go_num, hm2, HD⟩
                  case measure => simp [intOf]; omega
                · rw [if_neg h0] at hla
                  generalize rs[k] = x at hcell hla h13 h0
                  have HD : Hid (lines rs = (ms ++ [x]) ++ lines (rs.drop (k + 1))) := by
                    show _ = _
                    rw [hd.out, hla]
                    simp
                  obtain ⟨ao2, n2, c2', w2, hrun, hm2⟩ := hm.one Try.underlying26 info21 rfl (by decide) (.int .i32 x) rfl (by rw [r32_len]; omega)
                  rw [r32_snoc] at hm2
                  clear hla hd hr1 hm
                  go_wp2_with (at_builtin; refine Lib.wpList_append_run _ rfl _ _ _ _ rfl _ _ rfl rfl _ _ (hrun _) ?_)
                  go_roundw
                  case rel => exact ⟨k + 1, ms ++ [x], ao2, n2, c2', by omega, by simp; omega, rfl, by go_num, hm2, HD⟩
                  case measure => simp [intOf]; omega
            · obtain rfl : k = rs.length := by omega
              have hd2 := hd.out
              rw [List.drop_length, show lines ([] : List Int) = [] from rfl, List.append_nil] at hd2
              have hr2 := hm.rb
              have HN : n' ≤ 100000 := by
                rw [hr2.len, r32_len]
                omega
              have kp2 := kp1.trans hm.2.1 (fun x hx => by simp at hx)
              rw [← hd2] at hr2
              have HE := ref_encode_any wr ao' n' c' (lines rs) hr2 HN
              clear hd2 hd hr2 hm hr1 kp1
              go_wp2_with fail
              refine HE.mono ?_
              rintro e w5 ⟨rfl, rfl⟩
              clear HE
              go_wp2
              go_ret
              exact ⟨rfl, kp2⟩
    · have hne : strip bs = bs := strip_no (by rw [htk]; simp [mark, e0])
      rw [← hne] at h
      have HD := ref_decode_any _ _ _ _ _ h hby (by omega)
      rw [← hrs] at HD
      clear h hrs hne htk hdr hln hpr
      as_aux_lemma =>
        go_enter Try.func20, Try.ntmps20
        go_wp2_with fail
        refine HD.mono ?_
        rintro e w1 ⟨ao1, n1, c1', rfl, hm⟩
        have hr1 := hm.rb
        obtain rfl : n1 = rs.length := by rw [hr1.len, r32_len]
        have kp1 := hm.2.1
        clear HD hm
        go_wp2
        go_loopw [4, 5] (fun v i wr => ∃ (k : Nat) (ms : List Int) (ao' : Option Addr) (n' c' : Nat), k ≤ rs.length ∧ ms.length ≤ k ∧ v = .slice ao' n' c' ∧ i = .int .i64 k ∧ Made w1 wr 21 ao' n' c' (r32 ms) ∧ Hid (lines rs = ms ++ lines (rs.drop k))) (fun _ i _ => rs.length - (intOf i).toNat)
        case atStart => exact ⟨0, [], none, 0, 0, Nat.zero_le _, Nat.le_refl _, rfl, rfl, Made.nil w1 21, rfl⟩
        case round =>
          obtain ⟨k, ms, ao', n', c', hk, hmk, rfl, rfl, hm, hd⟩ := hrel
          by_cases hlt : k < rs.length
          · obtain ⟨g, o, rfl, hcell⟩ := (hr1.kept hm.2.1).r32_at k hlt
            have hla := lines_at hlt
            by_cases h13 : rs[k] = 13
            · rw [h13] at hcell
              rw [if_pos h13] at hla
              clear h13
              by_cases hn1 : k + 1 < rs.length
              · obtain ⟨g', o', hgo, hcell2⟩ := (hr1.kept hm.2.1).r32_at (k + 1) hn1
                simp only [Option.some.injEq, Addr.mk.injEq] at hgo
                obtain ⟨rfl, rfl, _⟩ := hgo
                rw [head_drop hn1] at hla
                generalize rs[k + 1] = y at hcell2 hla
                by_cases hy : y = 10
                · subst hy
                  rw [if_pos rfl] at hla
                  have HD : Hid (lines rs = ms ++ lines (rs.drop (k + 1))) := by
                    show _ = _
                    rw [hd.out, hla]
                  clear hla hd hr1
                  go_wp2
                  go_roundw
                  case rel => exact ⟨k + 1, ms, ao', n', c', by omega, by omega, rfl, by go_num, hm, HD⟩
                  case measure => simp [intOf]; omega
                · rw [if_neg (by simpa using hy)] at hla
                  have HD : Hid (lines rs = (ms ++ [10]) ++ lines (rs.drop (k + 1))) := by
                    show _ = _
                    rw [hd.out, hla]
                    simp
                  obtain ⟨ao2, n2, c2', w2, hrun, hm2⟩ := hm.one Try.underlying26 info21 rfl (by decide) (.int .i32 10) rfl (by rw [r32_len]; omega)
                  rw [r32_snoc] at hm2
                  clear hla hd hr1 hm
                  go_wp2_with (at_builtin; refine Lib.wpList_append_run _ rfl _ _ _ _ rfl _ _ rfl rfl _ _ (hrun _) ?_)
                  go_roundw
                  case rel => exact ⟨k + 1, ms ++ [10], ao2, n2, c2', by omega, by simp; omega, rfl, by go_num, hm2, HD⟩
                  case measure => simp [intOf]; omega
              · have hnil : rs.drop (k + 1) = [] := List.drop_eq_nil_of_le (by omega)
                have HD : Hid (lines rs = (ms ++ [10]) ++ lines (rs.drop (k + 1))) := by
                  show _ = _
                  rw [hd.out, hla, hnil]
                  simp
                obtain ⟨ao2, n2, c2', w2, hrun, hm2⟩ := hm.one Try.underlying26 info21 rfl (by decide) (.int .i32 10) rfl (by rw [r32_len]; omega)
                rw [r32_snoc] at hm2
                clear hla hd hr1 hm hnil
                go_wp2_with (at_builtin; refine Lib.wpList_append_run _ rfl _ _ _ _ rfl _ _ rfl rfl _ _ (hrun _) ?_)
                go_roundw
                case rel => exact ⟨k + 1, ms ++ [10], ao2, n2, c2', by omega, by simp; omega, rfl, by go_num, hm2, HD⟩
                case measure => simp [intOf]; omega
            · rw [if_neg h13] at hla
              by_cases h0 : rs[k] = 0
              · rw [h0] at hcell
                rw [if_pos h0] at hla
                clear h0 h13
                have HD : Hid (lines rs = (ms ++ [65533]) ++ lines (rs.drop (k + 1))) := by
                  show _ = _
                  rw [hd.out, hla]
                  simp
                obtain ⟨ao2, n2, c2', w2, hrun, hm2⟩ := hm.one Try.underlying26 info21 rfl (by decide) (.int .i32 65533) rfl (by rw [r32_len]; omega)
                rw [r32_snoc] at hm2
                clear hla hd hr1 hm
                go_wp2_with (at_builtin; refine Lib.wpList_append_run _ rfl _ _ _ _ rfl _ _ rfl rfl _ _ (hrun _) ?_)
                go_roundw
                case rel => exact ⟨k + 1, ms ++ [65533], ao2, n2, c2', by omega, by simp; omega, rfl, by go_num, hm2, HD⟩
                case measure => simp [intOf]; omega
              · rw [if_neg h0] at hla
                generalize rs[k] = x at hcell hla h13 h0
                have HD : Hid (lines rs = (ms ++ [x]) ++ lines (rs.drop (k + 1))) := by
                  show _ = _
                  rw [hd.out, hla]
                  simp
                obtain ⟨ao2, n2, c2', w2, hrun, hm2⟩ := hm.one Try.underlying26 info21 rfl (by decide) (.int .i32 x) rfl (by rw [r32_len]; omega)
                rw [r32_snoc] at hm2
                clear hla hd hr1 hm
                go_wp2_with (at_builtin; refine Lib.wpList_append_run _ rfl _ _ _ _ rfl _ _ rfl rfl _ _ (hrun _) ?_)
                go_roundw
                case rel => exact ⟨k + 1, ms ++ [x], ao2, n2, c2', by omega, by simp; omega, rfl, by go_num, hm2, HD⟩
                case measure => simp [intOf]; omega
          · obtain rfl : k = rs.length := by omega
            have hd2 := hd.out
            rw [List.drop_length, show lines ([] : List Int) = [] from rfl, List.append_nil] at hd2
            have hr2 := hm.rb
            have HN : n' ≤ 100000 := by
              rw [hr2.len, r32_len]
              omega
            have kp2 := kp1.trans hm.2.1 (fun x hx => by simp at hx)
            rw [← hd2] at hr2
            have HE := ref_encode_any wr ao' n' c' (lines rs) hr2 HN
            clear hd2 hd hr2 hm hr1 kp1
            go_wp2_with fail
            refine HE.mono ?_
            rintro e w5 ⟨rfl, rfl⟩
            clear HE
            go_wp2
            go_ret
            exact ⟨rfl, kp2⟩
  · have hne : strip bs = bs := strip_no (fun he => by
      have := congrArg List.length he
      rw [List.length_take] at this
      simp [mark] at this
      omega)
    rw [← hne] at h
    have HD := ref_decode_any _ _ _ _ _ h hby (by omega)
    rw [← hrs] at HD
    clear h hrs hne hln hpr
    as_aux_lemma =>
      go_enter Try.func20, Try.ntmps20
      go_wp2_with fail
      refine HD.mono ?_
      rintro e w1 ⟨ao1, n1, c1', rfl, hm⟩
      have hr1 := hm.rb
      obtain rfl : n1 = rs.length := by rw [hr1.len, r32_len]
      have kp1 := hm.2.1
      clear HD hm
      go_wp2
      go_loopw [4, 5] (fun v i wr => ∃ (k : Nat) (ms : List Int) (ao' : Option Addr) (n' c' : Nat), k ≤ rs.length ∧ ms.length ≤ k ∧ v = .slice ao' n' c' ∧ i = .int .i64 k ∧ Made w1 wr 21 ao' n' c' (r32 ms) ∧ Hid (lines rs = ms ++ lines (rs.drop k))) (fun _ i _ => rs.length - (intOf i).toNat)
      case atStart => exact ⟨0, [], none, 0, 0, Nat.zero_le _, Nat.le_refl _, rfl, rfl, Made.nil w1 21, rfl⟩
      case round =>
        obtain ⟨k, ms, ao', n', c', hk, hmk, rfl, rfl, hm, hd⟩ := hrel
        by_cases hlt : k < rs.length
        · obtain ⟨g, o, rfl, hcell⟩ := (hr1.kept hm.2.1).r32_at k hlt
          have hla := lines_at hlt
          by_cases h13 : rs[k] = 13
          · rw [h13] at hcell
            rw [if_pos h13] at hla
            clear h13
            by_cases hn1 : k + 1 < rs.length
            · obtain ⟨g', o', hgo, hcell2⟩ := (hr1.kept hm.2.1).r32_at (k + 1) hn1
              simp only [Option.some.injEq, Addr.mk.injEq] at hgo
              obtain ⟨rfl, rfl, _⟩ := hgo
              rw [head_drop hn1] at hla
              generalize rs[k + 1] = y at hcell2 hla
              by_cases hy : y = 10
              · subst hy
                rw [if_pos rfl] at hla
                have HD : Hid (lines rs = ms ++ lines (rs.drop (k + 1))) := by
                  show _ = _
                  rw [hd.out, hla]
                clear hla hd hr1
                go_wp2
                go_roundw
                case rel => exact ⟨k + 1, ms, ao', n', c', by omega, by omega, rfl, by go_num, hm, HD⟩
                case measure => simp [intOf]; omega
              · rw [if_neg (by simpa using hy)] at hla
                have HD : Hid (lines rs = (ms ++ [10]) ++ lines (rs.drop (k + 1))) := by
                  show _ = _
                  rw [hd.out, hla]
                  simp
                obtain ⟨ao2, n2, c2', w2, hrun, hm2⟩ := hm.one Try.underlying26 info21 rfl (by decide) (.int .i32 10) rfl (by rw [r32_len]; omega)
                rw [r32_snoc] at hm2
                clear hla hd hr1 hm
                go_wp2_with (at_builtin; refine Lib.wpList_append_run _ rfl _ _ _ _ rfl _ _ rfl rfl _ _ (hrun _) ?_)
                go_roundw
                case rel => exact ⟨k + 1, ms ++ [10], ao2, n2, c2', by omega, by simp; omega, rfl, by go_num, hm2, HD⟩
                case measure => simp [intOf]; omega
            · have hnil : rs.drop (k + 1) = [] := List.drop_eq_nil_of_le (by omega)
              have HD : Hid (lines rs = (ms ++ [10]) ++ lines (rs.drop (k + 1))) := by
                show _ = _
                rw [hd.out, hla, hnil]
                simp
              obtain ⟨ao2, n2, c2', w2, hrun, hm2⟩ := hm.one Try.underlying26 info21 rfl (by decide) (.int .i32 10) rfl (by rw [r32_len]; omega)
              rw [r32_snoc] at hm2
              clear hla hd hr1 hm hnil
              go_wp2_with (at_builtin; refine Lib.wpList_append_run _ rfl _ _ _ _ rfl _ _ rfl rfl _ _ (hrun _) ?_)
              go_roundw
              case rel => exact ⟨k + 1, ms ++ [10], ao2, n2, c2', by omega, by simp; omega, rfl, by go_num, hm2, HD⟩
              case measure => simp [intOf]; omega
          · rw [if_neg h13] at hla
            by_cases h0 : rs[k] = 0
            · rw [h0] at hcell
              rw [if_pos h0] at hla
              clear h0 h13
              have HD : Hid (lines rs = (ms ++ [65533]) ++ lines (rs.drop (k + 1))) := by
                show _ = _
                rw [hd.out, hla]
                simp
              obtain ⟨ao2, n2, c2', w2, hrun, hm2⟩ := hm.one Try.underlying26 info21 rfl (by decide) (.int .i32 65533) rfl (by rw [r32_len]; omega)
              rw [r32_snoc] at hm2
              clear hla hd hr1 hm
              go_wp2_with (at_builtin; refine Lib.wpList_append_run _ rfl _ _ _ _ rfl _ _ rfl rfl _ _ (hrun _) ?_)
              go_roundw
              case rel => exact ⟨k + 1, ms ++ [65533], ao2, n2, c2', by omega, by simp; omega, rfl, by go_num, hm2, HD⟩
              case measure => simp [intOf]; omega
            · rw [if_neg h0] at hla
              generalize rs[k] = x at hcell hla h13 h0
              have HD : Hid (lines rs = (ms ++ [x]) ++ lines (rs.drop (k + 1))) := by
                show _ = _
                rw [hd.out, hla]
                simp
              obtain ⟨ao2, n2, c2', w2, hrun, hm2⟩ := hm.one Try.underlying26 info21 rfl (by decide) (.int .i32 x) rfl (by rw [r32_len]; omega)
              rw [r32_snoc] at hm2
              clear hla hd hr1 hm
              go_wp2_with (at_builtin; refine Lib.wpList_append_run _ rfl _ _ _ _ rfl _ _ rfl rfl _ _ (hrun _) ?_)
              go_roundw
              case rel => exact ⟨k + 1, ms ++ [x], ao2, n2, c2', by omega, by simp; omega, rfl, by go_num, hm2, HD⟩
              case measure => simp [intOf]; omega
        · obtain rfl : k = rs.length := by omega
          have hd2 := hd.out
          rw [List.drop_length, show lines ([] : List Int) = [] from rfl, List.append_nil] at hd2
          have hr2 := hm.rb
          have HN : n' ≤ 100000 := by
            rw [hr2.len, r32_len]
            omega
          have kp2 := kp1.trans hm.2.1 (fun x hx => by simp at hx)
          rw [← hd2] at hr2
          have HE := ref_encode_any wr ao' n' c' (lines rs) hr2 HN
          clear hd2 hd hr2 hm hr1 kp1
          go_wp2_with fail
          refine HE.mono ?_
          rintro e w5 ⟨rfl, rfl⟩
          clear HE
          go_wp2
          go_ret
          exact ⟨rfl, kp2⟩

end Go.Proofs.Ytinafcajaikfdaa
