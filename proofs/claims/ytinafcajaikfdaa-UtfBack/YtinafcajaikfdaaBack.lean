/-
  The walk of UtfBack: whatever bytes and runes it is given, it answers true, and leaves what was there as it was.
-/
import Derived.Test.YtinafcajaikfdaaText
namespace Go.Proofs.Ytinafcajaikfdaa
open Go.RowKit Utf

set_option maxHeartbeats 1000000 in
set_option maxRecDepth 100000 in
theorem back_any (w : World) (ao : Option Addr) (n c : Nat) (bs : List Int) (lo : Option Addr) (m d : Nat) (ls : List Int) (h : Rb w ao n c (b8 bs)) (hb : byt bs) (k : Rb w lo m d (r32 ls)) :
    Calls Try.prog 5 #[.slice ao n c, .slice lo m d] w fun e w' => e = .returned (.bool true) ∧ Kp [] w w' := by
  have HM : Hid (m = ls.length) := by show _ = _; rw [k.len, r32_len]
  have HC := cut_any w ao n c 400 bs h
  have hb2 := byt_take hb 400
  have hbl : (bs.take 400).length ≤ 400 := by simp; omega
  generalize bs.take 400 = bl at HC hb2 hbl
  clear h hb
  go_enter Try.func5, Try.ntmps5
  go_wp2_with fail
  refine HC.mono ?_
  rintro e w1 ⟨⟨ao1, n1, c1, rfl, hn1, r1⟩, rfl⟩
  clear HC
  go_wp2
  go_loopw [5, 6] (fun v i wr => ∃ (q : Nat) (gs : List Int) (ga : Option Addr) (gn gc : Nat), q ≤ 100 ∧ q ≤ m ∧ v = .slice ga gn gc ∧ i = .int .i64 q ∧ Made w1 wr 21 ga gn gc (r32 gs) ∧ gs.length ≤ q ∧ ∀ r, r ∈ gs → good r) (fun _ i _ => 100 - (intOf i).toNat)
  case atStart => exact ⟨0, [], none, 0, 0, by omega, by omega, rfl, rfl, Made.nil w1 21, Nat.le_refl _, fun r hr => by simp at hr⟩
  case round =>
    obtain ⟨q, gs, ga, gn, gc, hq, hqm, rfl, rfl, hm, hgl, hgg⟩ := hrel
    by_cases hlt : q < m ∧ q < 100
    · obtain ⟨hlt1, hlt2⟩ := hlt
      obtain ⟨g, o, rfl, hcell⟩ := (k.kept hm.2.1).r32_at q (by have := HM.out; omega)
      generalize ls[q]'(by have := HM.out; omega) = x at hcell
      have HG : Hid (∀ r, r ∈ gs → good r) := hgg
      clear hgg
      have HR : ∃ ga2 gn2 gc2 w2, (∀ ty, (Builtin.append_ #[26, 26] ty #[.slice ga gn gc, .slice (some ⟨wr.heap.size, 0, none⟩) 1 1]).run Try.prog (wr.alloc (.cells #[.int .i32 x] 21)) = .ok (.slice ga2 gn2 gc2) w2) ∧ Made w1 w2 21 ga2 gn2 gc2 (r32 (gs ++ [x])) := by
        obtain ⟨ga2, gn2, gc2, w2, hrun, hm2⟩ := hm.one Try.underlying26 info21 rfl (by decide) (.int .i32 x) rfl (by rw [r32_len]; omega)
        rw [r32_snoc] at hm2
        exact ⟨ga2, gn2, gc2, w2, hrun, hm2⟩
      rcases (show x < 0 ∨ (0 ≤ x ∧ x < 55296) ∨ (55296 ≤ x ∧ x ≤ 57343) ∨ (57343 < x ∧ x ≤ 1114111) ∨ 1114111 < x by omega) with c1 | ⟨c1, c2⟩ | ⟨c1, c2⟩ | ⟨c1, c2⟩ | c1
      · clear HR
        go_wp2
        go_roundw
        case rel => exact ⟨q + 1, gs, ga, gn, gc, by omega, by omega, rfl, by go_num, hm, by omega, HG.out⟩
        case measure => simp [intOf]; omega
      · obtain ⟨ga2, gn2, gc2, w2, hrun, hm2⟩ := HR
        clear hm
        have HG2 : Hid (∀ r, r ∈ gs ++ [x] → good r) := fun r hr => by
          rcases List.mem_append.1 hr with h1 | h1
          · exact HG.out r h1
          · simp only [List.mem_singleton] at h1
            unfold good
            omega
        go_wp2_with (at_builtin; refine Lib.wpList_append_run _ rfl _ _ _ _ rfl _ _ rfl rfl _ _ (hrun _) ?_)
        go_roundw
        case rel => exact ⟨q + 1, gs ++ [x], ga2, gn2, gc2, by omega, by omega, rfl, by go_num, hm2, by simp; omega, HG2.out⟩
        case measure => simp [intOf]; omega
      · clear HR
        go_wp2
        go_roundw
        case rel => exact ⟨q + 1, gs, ga, gn, gc, by omega, by omega, rfl, by go_num, hm, by omega, HG.out⟩
        case measure => simp [intOf]; omega
      · obtain ⟨ga2, gn2, gc2, w2, hrun, hm2⟩ := HR
        clear hm
        have HG2 : Hid (∀ r, r ∈ gs ++ [x] → good r) := fun r hr => by
          rcases List.mem_append.1 hr with h1 | h1
          · exact HG.out r h1
          · simp only [List.mem_singleton] at h1
            unfold good
            omega
        go_wp2_with (at_builtin; refine Lib.wpList_append_run _ rfl _ _ _ _ rfl _ _ rfl rfl _ _ (hrun _) ?_)
        go_roundw
        case rel => exact ⟨q + 1, gs ++ [x], ga2, gn2, gc2, by omega, by omega, rfl, by go_num, hm2, by simp; omega, HG2.out⟩
        case measure => simp [intOf]; omega
      · clear HR
        go_wp2
        go_roundw
        case rel => exact ⟨q + 1, gs, ga, gn, gc, by omega, by omega, rfl, by go_num, hm, by omega, HG.out⟩
        case measure => simp [intOf]; omega
    · have HG : Hid (∀ r, r ∈ gs → good r) := hgg
      have k1 := hm.2.1
      have rg := hm.rb
      have hgn : gn ≤ 100 := by rw [rg.len, r32_len]; omega
      have HP := prepare_any wr _ _ _ bl (r1.kept k1) hb2 (by omega)
      clear hgg hm k r1
      have hpg := prep_good bl (byt_of hb2)
      have hpl := prep_len bl
      have hag := prep_again bl (byt_of hb2)
      generalize prep bl = P at HP hpg hpl hag
      have hel := encs_len P
      have hbe := encs_byt P
      have hde := dec_encs P (fun r hr => (hpg r hr).1)
      have hnz : ∀ x, x ∈ encs P → x ≠ 0 ∧ x ≠ 13 := fun x hx => by
        rcases encs_mem (fun r hr => (hpg r hr).1) hx with h1 | h1
        · exact (hpg x h1).2
        · omega
      have hbs := bytes_strs hbe
      have hsz : (strOfNums (encs P)).size = (encs P).length := strOfNums_size _
      obtain ⟨s, HS⟩ : ∃ s, s = strOfNums (encs P) := ⟨_, rfl⟩
      have hmk : ¬ (3 ≤ s.size ∧ (s.extract 0 3).toList = [239, 187, 191]) → prep (encs P) = P := fun hno => hag (strip_no (fun he => hno ⟨by
        have h1 := congrArg List.length he
        rw [List.length_take] at h1
        simp [mark] at h1
        rw [HS, hsz]
        omega, by rw [HS]; exact text_mark he⟩))
      rw [← HS] at HP hbs hsz
      have hss : s.size ≤ 2000 := by omega
      have hch : ∀ (j : Nat) (hj : j < s.size), ((s[j]'hj).toNat : Int) ≠ 0 ∧ ((s[j]'hj).toNat : Int) ≠ 13 := fun j hj => by
        have := text_mem s j hj
        rw [hbs] at this
        exact hnz _ this
      have HPP : Hid (∀ r, r ∈ P → good r) := fun r hr => (hpg r hr).1
      have HBS : Hid (bytesOf s = encs P) := hbs
      have HDE : Hid (dec (encs P) = P) := hde
      have HMK : Hid (¬ (3 ≤ s.size ∧ (s.extract 0 3).toList = [239, 187, 191]) → prep (encs P) = P) := hmk
      have HSS : Hid (s = strOfNums (encs P)) := HS
      have HCH : Hid (∀ (j : Nat) (hj : j < s.size), ((s[j]'hj).toNat : Int) ≠ 0 ∧ ((s[j]'hj).toNat : Int) ≠ 13) := hch
      have HBE : Hid (byt (encs P)) := hbe
      clear hpg hag hel hde hnz hbs hsz HS hmk hch hbe
      have hqq : Hid (¬ (q < m ∧ q < 100)) := hlt
      rcases (show ¬ q < m ∨ (q < m ∧ ¬ q < 100) by omega) with d1 | ⟨d1, d2⟩
      all_goals
        clear hlt hqq
        go_wp2_with fail
        refine HP.mono ?_
        rintro e w3 ⟨rfl, kk⟩
        have k3 := k1.trans kk (fun x hx => by simp at hx)
        have rg3 := rg.kept kk
        clear HP kk k1 rg
        go_wp2
        go_loopw [8] (fun i wr => ∃ (j : Nat), j ≤ s.size ∧ i = .int .i64 j ∧ wr = w3) (fun i _ => s.size - (intOf i).toNat)
        case atStart => exact ⟨0, Nat.zero_le _, rfl, rfl⟩
        case round =>
          obtain ⟨j, hj, rfl, rfl⟩ := hrel
          by_cases hjl : j < s.size
          · obtain ⟨z0, z13⟩ := HCH.out j hjl
            have b0 : (((s[j]'hjl).toNat : Int) == 0) = false := by simpa using z0
            have b13 : (((s[j]'hjl).toNat : Int) == 13) = false := by simpa using z13
            clear z0 z13
            go_wp2
            go_roundw
            case rel => exact ⟨j + 1, by omega, by go_num, trivial⟩
            case measure => simp [intOf]; omega
          · obtain rfl : j = s.size := by omega
            have HE := encode_any _ _ _ _ gs rg3 (fun r hr => good_int (HG.out r hr)) (by omega)
            obtain ⟨PP, hPP⟩ : ∃ PP : Prop, PP = (3 ≤ s.size ∧ (s.extract 0 3).toList = [239, 187, 191]) := ⟨_, rfl⟩
            have HN : Hid (¬ PP → prep (encs P) = P) := fun h => HMK.out (by rw [← hPP]; exact h)
            rcases (show (3 ≤ s.size ∧ (s.extract 0 3).toList = [239, 187, 191]) ∨ (3 ≤ s.size ∧ ¬ (s.extract 0 3).toList = [239, 187, 191]) ∨ ¬ 3 ≤ s.size by
              by_cases e1 : 3 ≤ s.size
              · by_cases e2 : (s.extract 0 3).toList = [239, 187, 191]
                · exact Or.inl ⟨e1, e2⟩
                · exact Or.inr (Or.inl ⟨e1, e2⟩)
              · exact Or.inr (Or.inr e1)) with ⟨e1, e2⟩ | ⟨e1, e2⟩ | e1
            · as_aux_lemma =>
                clear HMK HCH
                clear hPP HN
                go_wp2_with fail
                refine HE.mono ?_
                rintro e w4 ⟨rfl, kk⟩
                have k4 := k3.trans kk (fun x hx => by simp at hx)
                have rg4 := rg3.kept kk
                clear HE k3 rg3 kk
                obtain ⟨w5, c5, hcv5, kk, r5⟩ := to_bytes w4 (strOfNums (encs gs))
                rw [bytes_strs (encs_byt gs)] at r5
                have k5 := k4.trans kk (fun x hx => by simp at hx)
                have rg5 := rg4.kept kk
                have hl5 : (strOfNums (encs gs)).size ≤ 1000 := by
                  rw [strOfNums_size]
                  have := encs_len gs
                  omega
                have HD := decode_any _ _ _ _ _ r5 (encs_byt gs) (by omega)
                rw [dec_encs gs HG.out] at HD
                clear k4 rg4 kk r5
                generalize w4.heap.size = z4 at hcv5 HD
                go_wp2_with fail
                refine HD.mono ?_
                rintro e w6 ⟨ia, im, ic, rfl, mi⟩
                have him : im ≤ 100 := by rw [mi.rb.len, r32_len]; omega
                have rg6 := rg5.kept mi.2.1
                have k6 := k5.trans mi.2.1 (fun x hx => by simp at hx)
                have HQ := same_runes _ _ _ _ _ _ _ _ mi.rb rg6 (by omega)
                clear HD hcv5 mi rg5 k5 hl5
                go_wp2_with fail
                refine HQ.mono ?_
                rintro e w7 ⟨rfl, kk⟩
                have k7 := k6.trans kk (fun x hx => by simp at hx)
                clear HQ rg6 k6 kk
                obtain ⟨w8, c8, hcv8, kk, r8⟩ := to_bytes w7 s
                rw [HBS.out] at r8
                have k8 := k7.trans kk (fun x hx => by simp at hx)
                have HD := decode_any _ _ _ _ _ r8 HBE.out (by omega)
                rw [HDE.out] at HD
                clear k7 kk r8
                generalize w7.heap.size = z7 at hcv8 HD
                go_wp2_with fail
                refine HD.mono ?_
                rintro e w9 ⟨ja, jn, jc, rfl, mj⟩
                have hjn : jn ≤ 400 := by rw [mj.rb.len, r32_len]; omega
                have k9 := k8.trans mj.2.1 (fun x hx => by simp at hx)
                have HE := encode_any _ _ _ _ P mj.rb (fun r hr => good_int (HPP.out r hr)) (by omega)
                rw [← HSS.out] at HE
                clear HD hcv8 mj k8
                go_wp2_with fail
                refine HE.mono ?_
                rintro e w10 ⟨rfl, kk⟩
                have k10 := k9.trans kk (fun x hx => by simp at hx)
                clear HE k9 kk
                go_wp2_with fail
                refine (known_any _).mono ?_
                rintro e w13 ⟨rfl, kk⟩
                have k13 := k10.trans kk (fun x hx => by simp at hx)
                clear k10 kk
                go_wp2
                go_ret
                exact ⟨rfl, k13⟩
            · as_aux_lemma =>
                clear HMK HCH
                have HPR : Hid (prep (encs P) = P) := HN.out (fun h => by rw [hPP] at h; exact e2 h.2)
                clear hPP HN
                go_wp2_with fail
                refine HE.mono ?_
                rintro e w4 ⟨rfl, kk⟩
                have k4 := k3.trans kk (fun x hx => by simp at hx)
                have rg4 := rg3.kept kk
                clear HE k3 rg3 kk
                obtain ⟨w5, c5, hcv5, kk, r5⟩ := to_bytes w4 (strOfNums (encs gs))
                rw [bytes_strs (encs_byt gs)] at r5
                have k5 := k4.trans kk (fun x hx => by simp at hx)
                have rg5 := rg4.kept kk
                have hl5 : (strOfNums (encs gs)).size ≤ 1000 := by
                  rw [strOfNums_size]
                  have := encs_len gs
                  omega
                have HD := decode_any _ _ _ _ _ r5 (encs_byt gs) (by omega)
                rw [dec_encs gs HG.out] at HD
                clear k4 rg4 kk r5
                generalize w4.heap.size = z4 at hcv5 HD
                go_wp2_with fail
                refine HD.mono ?_
                rintro e w6 ⟨ia, im, ic, rfl, mi⟩
                have him : im ≤ 100 := by rw [mi.rb.len, r32_len]; omega
                have rg6 := rg5.kept mi.2.1
                have k6 := k5.trans mi.2.1 (fun x hx => by simp at hx)
                have HQ := same_runes _ _ _ _ _ _ _ _ mi.rb rg6 (by omega)
                clear HD hcv5 mi rg5 k5 hl5
                go_wp2_with fail
                refine HQ.mono ?_
                rintro e w7 ⟨rfl, kk⟩
                have k7 := k6.trans kk (fun x hx => by simp at hx)
                clear HQ rg6 k6 kk
                obtain ⟨w8, c8, hcv8, kk, r8⟩ := to_bytes w7 s
                rw [HBS.out] at r8
                have k8 := k7.trans kk (fun x hx => by simp at hx)
                have HD := decode_any _ _ _ _ _ r8 HBE.out (by omega)
                rw [HDE.out] at HD
                clear k7 kk r8
                generalize w7.heap.size = z7 at hcv8 HD
                go_wp2_with fail
                refine HD.mono ?_
                rintro e w9 ⟨ja, jn, jc, rfl, mj⟩
                have hjn : jn ≤ 400 := by rw [mj.rb.len, r32_len]; omega
                have k9 := k8.trans mj.2.1 (fun x hx => by simp at hx)
                have HE := encode_any _ _ _ _ P mj.rb (fun r hr => good_int (HPP.out r hr)) (by omega)
                rw [← HSS.out] at HE
                clear HD hcv8 mj k8
                go_wp2_with fail
                refine HE.mono ?_
                rintro e w10 ⟨rfl, kk⟩
                have k10 := k9.trans kk (fun x hx => by simp at hx)
                clear HE k9 kk
                obtain ⟨w11, c11, hcv11, kk, r11⟩ := to_bytes w10 s
                rw [HBS.out] at r11
                have k11 := k10.trans kk (fun x hx => by simp at hx)
                have HP := prepare_any _ _ _ _ _ r11 HBE.out (by omega)
                rw [HPR.out, ← HSS.out] at HP
                clear k10 kk r11
                generalize w10.heap.size = z10 at hcv11 HP
                go_wp2_with fail
                refine HP.mono ?_
                rintro e w12 ⟨rfl, kk⟩
                have k12 := k11.trans kk (fun x hx => by simp at hx)
                clear HP k11 kk hcv11
                go_wp2_with fail
                refine (known_any _).mono ?_
                rintro e w13 ⟨rfl, kk⟩
                have k13 := k12.trans kk (fun x hx => by simp at hx)
                clear k12 kk
                go_wp2
                go_ret
                exact ⟨rfl, k13⟩
            · as_aux_lemma =>
                clear HMK HCH
                have HPR : Hid (prep (encs P) = P) := HN.out (fun h => by rw [hPP] at h; exact e1 h.1)
                clear hPP HN
                go_wp2_with fail
                refine HE.mono ?_
                rintro e w4 ⟨rfl, kk⟩
                have k4 := k3.trans kk (fun x hx => by simp at hx)
                have rg4 := rg3.kept kk
                clear HE k3 rg3 kk
                obtain ⟨w5, c5, hcv5, kk, r5⟩ := to_bytes w4 (strOfNums (encs gs))
                rw [bytes_strs (encs_byt gs)] at r5
                have k5 := k4.trans kk (fun x hx => by simp at hx)
                have rg5 := rg4.kept kk
                have hl5 : (strOfNums (encs gs)).size ≤ 1000 := by
                  rw [strOfNums_size]
                  have := encs_len gs
                  omega
                have HD := decode_any _ _ _ _ _ r5 (encs_byt gs) (by omega)
                rw [dec_encs gs HG.out] at HD
                clear k4 rg4 kk r5
                generalize w4.heap.size = z4 at hcv5 HD
                go_wp2_with fail
                refine HD.mono ?_
                rintro e w6 ⟨ia, im, ic, rfl, mi⟩
                have him : im ≤ 100 := by rw [mi.rb.len, r32_len]; omega
                have rg6 := rg5.kept mi.2.1
                have k6 := k5.trans mi.2.1 (fun x hx => by simp at hx)
                have HQ := same_runes _ _ _ _ _ _ _ _ mi.rb rg6 (by omega)
                clear HD hcv5 mi rg5 k5 hl5
                go_wp2_with fail
                refine HQ.mono ?_
                rintro e w7 ⟨rfl, kk⟩
                have k7 := k6.trans kk (fun x hx => by simp at hx)
                clear HQ rg6 k6 kk
                obtain ⟨w8, c8, hcv8, kk, r8⟩ := to_bytes w7 s
                rw [HBS.out] at r8
                have k8 := k7.trans kk (fun x hx => by simp at hx)
                have HD := decode_any _ _ _ _ _ r8 HBE.out (by omega)
                rw [HDE.out] at HD
                clear k7 kk r8
                generalize w7.heap.size = z7 at hcv8 HD
                go_wp2_with fail
                refine HD.mono ?_
                rintro e w9 ⟨ja, jn, jc, rfl, mj⟩
                have hjn : jn ≤ 400 := by rw [mj.rb.len, r32_len]; omega
                have k9 := k8.trans mj.2.1 (fun x hx => by simp at hx)
                have HE := encode_any _ _ _ _ P mj.rb (fun r hr => good_int (HPP.out r hr)) (by omega)
                rw [← HSS.out] at HE
                clear HD hcv8 mj k8
                go_wp2_with fail
                refine HE.mono ?_
                rintro e w10 ⟨rfl, kk⟩
                have k10 := k9.trans kk (fun x hx => by simp at hx)
                clear HE k9 kk
                obtain ⟨w11, c11, hcv11, kk, r11⟩ := to_bytes w10 s
                rw [HBS.out] at r11
                have k11 := k10.trans kk (fun x hx => by simp at hx)
                have HP := prepare_any _ _ _ _ _ r11 HBE.out (by omega)
                rw [HPR.out, ← HSS.out] at HP
                clear k10 kk r11
                generalize w10.heap.size = z10 at hcv11 HP
                go_wp2_with fail
                refine HP.mono ?_
                rintro e w12 ⟨rfl, kk⟩
                have k12 := k11.trans kk (fun x hx => by simp at hx)
                clear HP k11 kk hcv11
                go_wp2_with fail
                refine (known_any _).mono ?_
                rintro e w13 ⟨rfl, kk⟩
                have k13 := k12.trans kk (fun x hx => by simp at hx)
                clear k12 kk
                go_wp2
                go_ret
                exact ⟨rfl, k13⟩

end Go.Proofs.Ytinafcajaikfdaa
