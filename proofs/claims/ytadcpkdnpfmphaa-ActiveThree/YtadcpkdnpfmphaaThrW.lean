/-
  ActiveThree.
-/
import Derived.Test.YtadcpkdnpfmphaaKn
import Derived.Test.YtadcpkdnpfmphaaAin
import Derived.Test.YtadcpkdnpfmphaaThr
import Derived.Test.YtadcpkdnpfmphaaNam
import Derived.Test.YtadcpkdnpfmphaaShort
namespace Go.Proofs.Ytadcpkdnpfmphaa.Ints
open Go.RowKit
set_option linter.unusedSimpArgs false
set_option linter.unusedVariables false

theorem few_mono {x : Ent} (h : Few x) : x.2.2.2.length ≤ 6 := h.1

theorem mod4 (k : Int) : IntKind.i64.wrap (k.tmod 4) = k.tmod 4 := by
  rw [IntKind.wrap_i64]
  have h1 := Int.tmod_lt_of_pos k (b := 4) (by omega)
  have h2 := Int.lt_tmod_of_pos k (b := 4) (by omega)
  omega

set_option maxRecDepth 100000 in
set_option maxHeartbeats 8000000 in
theorem three_walk (w : World) (ao : Option Addr) (n c : Nat) (F : Nat → Ask) (hA : As w ao n c F) :
    Calls Try.prog 5 #[.slice ao n c] w fun e w' => e = .returned (.bool true) ∧ Kp [] w w' := by
  have H1 := new_list w w (Nat.le_refl _)
  have hnc := hA.1
  go_enter Try.func5, Try.ntmps5
  go_wp2_with fail
  refine H1.mono ?_
  rintro e w1 ⟨q, rfl, hL, k1⟩
  clear H1
  have HK1 : Hid (Kp [] w w1) := k1
  clear k1
  go_wp2
  go_loopw [4] (fun i wr => ∃ (k : Nat) (zs : List Ent) (B : List Nat), k ≤ 60 ∧ k ≤ n ∧ zs.length ≤ k ∧ Ok3 zs ∧ i = .int .i64 (k : Int) ∧ Li w wr q B zs ∧ Kp [] w wr) (fun i _ => n - (intOf i).toNat)
  case atStart => exact ⟨0, [], [], by omega, Nat.zero_le _, Nat.le_refl _, trivial, rfl, hL, HK1.out⟩
  case round =>
    obtain ⟨k, zs, B, hk, hkn, hz, hok, rfl, hr, kr⟩ := hrel
    clear hL HK1
    by_cases hlt : k < 60 ∧ k < n
    · obtain ⟨g1, g2⟩ := hlt
      obtain ⟨b, off, rfl, hc, hat⟩ := (hA.kept kr).2 k g2
      have hA' : Hid (∀ W, Kp [] w W → As W (some ⟨b, off, none⟩) n c F) := fun W kW => hA.kept kW
      -- what is left of the round, when the list holds zs2
      have c0 : wr.cell? ⟨b, off + k * 5, none⟩ = some (.int .i64 (F k).1) := by have := hc 0 (by omega); simpa [askc] using this
      have c2 : wr.cell? ⟨b, off + k * 5 + 2, none⟩ = some (.int .i64 (F k).2.2.1) := by have := hc 2 (by omega); simpa [askc] using this
      have c4 : wr.cell? ⟨b, off + k * 5 + 4, none⟩ = some (.slice (F k).2.2.2.2.1.1 (F k).2.2.2.2.1.2.1 (F k).2.2.2.2.1.2.2) := by have := hc 4 (by omega); simpa [askc] using this
      have CC0 : Hid (∀ W, Kp [] w W → W.cell? ⟨b, off + k * 5 + 2, none⟩ = some (.int .i64 (F k).2.2.1) ∧ W.cell? ⟨b, off + k * 5 + 4, none⟩ = some (.slice (F k).2.2.2.2.1.1 (F k).2.2.2.2.1.2.1 (F k).2.2.2.2.1.2.2)) := fun W kW => by
        obtain ⟨b', off', e, hc', _⟩ := (hA.kept kW).2 k g2
        simp only [Option.some.injEq, Addr.mk.injEq, and_true] at e
        obtain ⟨rfl, rfl⟩ := e
        have h2 := hc' 2 (by omega)
        have h4 := hc' 4 (by omega)
        exact ⟨by simpa [askc] using h2, by simpa [askc] using h4⟩
      generalize F k = a at c0 c2 c4 hat CC0
      obtain ⟨kd, H, N, I, ⟨sa, sn, sc⟩, al⟩ := a
      simp only at c0 c2 c4 CC0
      have CC : Hid _ := CC0
      clear CC0
      have hs1 := hat.1
      have hs2 := hat.2
      simp only at hs1 hs2
      have HM : Hid (∀ W, Kp [] wr W → Calls Try.prog 10 #[.pointer (some ⟨q, 0, none⟩)] W fun e w' => e = .returned (.tuple #[]) ∧ Nx w wr q B (zs ++ [emk]) w') := fun W kW => (mark_list w W q B zs (hr.kept kW) (by omega)).mono (fun e w' ⟨h1, h2⟩ => ⟨h1, h2.ahead kW⟩)
      have HC : Hid (Calls Try.prog 11 #[.pointer (some ⟨q, 0, none⟩)] wr fun e w' => e = .returned (.tuple #[]) ∧ Nx w wr q B (clr zs) w') := clear_list w wr q B zs hr (by omega)
      have HN : Hid (∀ W i, Calls Try.prog 13 #[.int .i64 i] W fun e w' => e = .returned (.string (nm i)) ∧ Kp [] W w') := fun W i => names_any W i
      have HS : Hid (∀ W, Kp [] wr W → Calls Try.prog 14 #[.slice sa sn sc] W fun e w' => ∃ ao' n' c', e = .returned (.slice ao' n' c') ∧ Mp W w' ao' n' c' (short al)) := fun W kW => short_any W al sa sn sc (hs1.kept kW) hs2
      have HP : Hid (∀ W s ao' n' c' V, Kp [] wr V → Mp V W ao' n' c' (short al) → Calls Try.prog 12 #[.pointer (some ⟨q, 0, none⟩), .int .i64 (k : Int), .string s, .slice ao' n' c'] W fun e w' => e = .returned (.tuple #[]) ∧ Nx w wr q B (psh zs k s (short al)) w') := fun W s ao' n' c' V kV M =>
        (push_list w W q B zs (k : Int) s (short al) ao' n' c' (hr.kept (kt kV M.kp)) (Rz.of_mp M) (by rw [M.len]; exact short_len al) (short_fits al) (by omega)).mono (fun e w' ⟨h1, h2⟩ => ⟨h1, h2.ahead (kt kV M.kp)⟩)
      have HX : Hid (∀ ys W, Nx w wr q B ys W → Ok3 ys → ys.length ≤ zs.length + 1 → Ok3 ys ∧ ys.length ≤ k + 1 ∧ (∃ B', Li w W q B' ys) ∧ Kp [] w W) := fun ys W hN hO hl => by
        obtain ⟨⟨B', l2, _⟩, e2⟩ := hN
        exact ⟨hO, by omega, ⟨B', l2⟩, e2.kp kr⟩
      have O1 := hok.mark
      have O2 := hok.clr
      have O3 : ∀ s, Ok3 (psh zs k s (short al)) := fun s => hok.push k s (short al)
      have L3 : ∀ s, (psh zs k s (short al)).length ≤ zs.length + 1 := fun s => psh_len zs k s (short al)
      have L2 := clr_len zs
      have KR : Hid (Kp [] w wr) := kr
      have HO : Hid ((Ok3 (zs ++ [emk]) ∧ Ok3 (clr zs)) ∧ ∀ s, Ok3 (psh zs k s (short al))) := ⟨⟨O1, O2⟩, O3⟩
      have HLn : Hid ((clr zs).length ≤ zs.length ∧ ∀ s, (psh zs k s (short al)).length ≤ zs.length + 1) := ⟨L2, L3⟩
      have hm4 := mod4 kd
      have hm5 := mod4 N
      clear hA hc hat hr kr hs1 hs2 O1 O2 O3 L2 L3 hok
      rcases (show kd.tmod 4 = 0 ∨ kd.tmod 4 = 1 ∨ (kd.tmod 4 ≠ 0 ∧ kd.tmod 4 ≠ 1) from by omega) with e1 | e1 | ⟨q1, q2⟩
      case' inl =>
        have q1b : (kd.tmod 4 == 0) = true := by rw [e1]; rfl
        clear e1
        have HM2 := HM.out wr (Kp.refl _ _)
        clear HM HC HN HS HP CC KR
        go_wp2_with fail
        refine HM2.mono ?_
        rintro e w2 ⟨rfl, hN⟩
        obtain ⟨ys, hys⟩ : ∃ ys, zs ++ [emk] = ys := ⟨_, rfl⟩
        have H2 : Hid (Ok3 ys ∧ ys.length ≤ k + 1 ∧ (∃ B', Li w w2 q B' ys) ∧ Kp [] w w2) := by rw [← hys]; exact HX.out _ w2 hN HO.out.1.1 (by simp)
        clear HX HO HLn hN HM2 hys
      case' inr.inl =>
        have q1b : (kd.tmod 4 == 0) = false := by rw [e1]; rfl
        have q2b : (kd.tmod 4 == 1) = true := by rw [e1]; rfl
        clear e1
        have HC2 := HC.out
        clear HM HC HN HS HP CC KR
        go_wp2_with fail
        refine HC2.mono ?_
        rintro e w2 ⟨rfl, hN⟩
        obtain ⟨ys, hys⟩ : ∃ ys, clr zs = ys := ⟨_, rfl⟩
        have H2 : Hid (Ok3 ys ∧ ys.length ≤ k + 1 ∧ (∃ B', Li w w2 q B' ys) ∧ Kp [] w w2) := by rw [← hys]; exact HX.out _ w2 hN HO.out.1.2 (by have := HLn.out.1; omega)
        clear HX HO HLn hN HC2 hys
      case' inr.inr =>
        have q1b : (kd.tmod 4 == 0) = false := beq_false_of_ne q1
        have q2b : (kd.tmod 4 == 1) = false := beq_false_of_ne q2
        clear q1 q2
        have q3 : (0 : Int) ≤ (k : Int) := by omega
        have q4 : (k : Int) < (n : Int) := by omega
        clear HM HC
        go_upto_region 8 with fail
        go_region_held3 (fun V => V.cell? ⟨b, off + k * 5 + 2, none⟩ = some (.int .i64 N) ∧ V.cell? ⟨b, off + k * 5 + 4, none⟩ = some (.slice sa sn sc))
          (first | with_reducible exact CC.out _ S3.out | with_reducible exact CC.out _ (kt KR.out S2.out.1) | with_reducible exact CC.out _ (kt KR.out S1.out) | exact CC.out _ (KR.out.drew))
          (first
            | (have D2 := S2.out; have D1 := S1.out; go_at_call 12; refine (HP.out _ _ _ _ _ _ D1 D2.2).mono ?_; rintro e w2 ⟨rfl, hN⟩; have S4 : Hid _ := hN; have S3 : Hid (Kp [] w w2) := hN.2.kp KR.out; clear hN)
            | (have D1 := S1.out; go_at_call 14; refine (HS.out _ D1).mono ?_; rintro e v2 ⟨ao', n', c', rfl, M⟩; have S2 : Hid (Kp [] wr v2 ∧ Mp _ v2 ao' n' c' (short al)) := ⟨kt D1 M.kp, M⟩; clear M)
            | (go_at_call 13; refine (HN.out _ _).mono ?_; rintro e v1 ⟨rfl, kk⟩; have S1 : Hid (Kp [] wr v1) := kt (Kp.refl [] wr).drew kk; clear kk))
        all_goals
          obtain ⟨ys, hys⟩ : ∃ ys, psh zs (k : Int) (nm (N.tmod 4)) (short al) = ys := ⟨_, rfl⟩
          have H2 : Hid (Ok3 ys ∧ ys.length ≤ k + 1 ∧ (∃ B', Li w w2 q B' ys) ∧ Kp [] w w2) := by rw [← hys]; exact HX.out _ w2 S4.out (HO.out.2 _) (HLn.out.2 _)
          clear HX HO HLn S4 S3 S2 S1 hys HP HS HN CC
      all_goals
        obtain ⟨hO2, hl2, ⟨B2, l2⟩, k2⟩ := H2.out
        have HLn2 := len_list w w2 q B2 ys l2
        have LL : Hid (∀ W, Kp [] w2 W → Li w W q B2 ys) := fun W kW => l2.kept kW
        have KK : Hid (Kp [] w w2) := k2
        obtain ⟨xl, hxl⟩ : ∃ x, gtk ys ((ys.length - 1 : Nat) : Int) = x := ⟨_, rfl⟩
        have HXL : Hid (∀ h : 0 < ys.length, ys[ys.length - 1]'(by omega) = xl) := fun h => by rw [← hxl, gtk_at ys (ys.length - 1) (by omega)]
        have hT := hO2.le xl.2.2.1 xl.2.2.2
        rw [← rev_all] at hT
        obtain ⟨T, hTe⟩ : ∃ T, cntR (alk xl.2.2.1 xl.2.2.2) (ys.take ys.length).reverse = T := ⟨_, rfl⟩
        rw [hTe] at hT
        have HT : Hid (T ≤ 3) := hT
        have HO2 : Hid (Ok3 ys ∧ ys.length ≤ k + 1) := ⟨hO2, hl2⟩
        have hyl9 : ys.length ≤ 100 := by omega
        clear hO2 hl2 l2 k2 H2 hxl hT
        go_wp2_with fail
        refine HLn2.mono ?_
        rintro e w' ⟨rfl, hw⟩
        have hw2 := hw.symm
        clear hw
        subst hw2
        clear HLn2
        go_wp2
        go_loopw [5, 6] (fun m i wr => ∃ j m0 : Nat, j ≤ ys.length ∧ m = .int .i64 (m0 : Int) ∧ i = .int .i64 ((j : Int) - 1) ∧ Kp [] w2 wr ∧ m0 + cntR (alk xl.2.2.1 xl.2.2.2) (ys.take j).reverse = T) (fun _ i _ => (intOf i + 1).toNat)
        case atStart => exact ⟨ys.length, 0, Nat.le_refl _, rfl, by go_num, Kp.refl _ _, by rw [hTe]; omega⟩
        case round =>
          obtain ⟨j, m0, hj, rfl, rfl, kx, hp⟩ := hrel
          clear hTe
          have KX : Hid (Kp [] w2 wr) := kx
          clear kx
          rcases j with _ | j
          · simp only [List.take_zero, List.reverse_nil, cntR] at hp
            have q9 : decide ((3 : Int) < (m0 : Int)) = false := decide_eq_false (by have := HT.out; omega)
            have H3 : Hid (Ok3 ys ∧ ys.length ≤ k + 1 ∧ Li w wr q B2 ys ∧ Kp [] w wr) := ⟨HO2.out.1, HO2.out.2, LL.out wr KX.out, kt KK.out KX.out⟩
            clear LL HXL HT KX
            go_wp2
            go_roundw
            case rel => exact ⟨k + 1, ys, B2, by omega, by omega, H3.out.2.1, H3.out.1, by go_num, H3.out.2.2.1, H3.out.2.2.2⟩
            case measure => simp [intOf]; omega
          · have hjl : j < ys.length := by omega
            have HA1 := at_list w wr q B2 ys j (LL.out wr KX.out) hjl
            rw [rev_take ys j hjl] at hp
            generalize ys[j] = y at HA1 hp
            rw [show (((j + 1 : Nat) : Int) - 1) = (j : Int) by omega]
            unfold rv at HA1
            go_wp2_with fail
            refine HA1.mono ?_
            rintro e w4 ⟨⟨ym, yh, yn, yo, yl, yc⟩, rfl, hs, k4⟩
            obtain ⟨a1, a2, a3, a4, a5⟩ := hs
            obtain ⟨m, hh, nmx, l⟩ := y
            simp only at a1 a2 a3 a4 hp
            subst a1 a2 a3
            simp only
            obtain ⟨w5, hw5⟩ : ∃ w5, w5 = w4.alloc (.cells #[.bool ym, .int .i64 yh, .string yn, .slice yo yl yc] 40) := ⟨_, rfl⟩
            have k45 : Kp [] w4 w5 := by rw [hw5]; exact (Kp.refl _ _).alloc _
            have hb5 : w5.heap[w4.heap.size]? = some (.cells #[.bool ym, .int .i64 yh, .string yn, .slice yo yl yc] 40 (0, 0)) := by rw [hw5]; exact heap_new _ _
            have K5 : Hid (Kp [] w2 w5) := kt (kt KX.out k4) k45
            obtain ⟨gy, hgy⟩ : ∃ g, g = w4.heap.size := ⟨_, rfl⟩
            rw [← hgy] at hb5
            have y0 : w5.cell? ⟨gy, 0, none⟩ = some (.bool ym) := cell_of hb5 0
            have Z5 := a4.kept k45
            clear HA1 k4
            unfold cntR at hp
            simp only at hp
            cases ym
            · simp only [Bool.false_eq_true, if_false] at hp
              have HA2 := HXL
              have hll : ((ys.length - 1 : Nat) : Int) = (ys.length : Int) - 1 := by omega
              have HL5 := len_list w w5 q B2 ys (LL.out w5 K5.out)
              have HA3 := at_list w w5 q B2 ys (ys.length - 1) (LL.out w5 K5.out) (by omega)
              rw [HXL.out (by omega), hll] at HA3
              have hwl : IntKind.i64.wrap ((ys.length : Int) - 1) = (ys.length : Int) - 1 := by rw [IntKind.wrap_i64]; have := HO2.out.2; omega
              have HLL : Hid (∀ W, Kp [] w5 W → Li w W q B2 ys) := fun W kW => LL.out W (kt K5.out kW)
              unfold rv at HA3
              have hgl := lt_of hb5
              clear HA2
              go_upto_region 18 with fail
              rw [← hw5, ← hgy]
              clear hw5 hgy k45
              go_wp2_with fail
              refine HL5.mono ?_
              rintro e w' ⟨rfl, hw⟩
              have hw2 := hw.symm
              clear hw
              subst hw2
              clear HL5
              go_wp2_with fail
              refine HA3.mono ?_
              rintro e w6 ⟨⟨zm, zh, zn, zo, zl, zc⟩, rfl, hs, k6⟩
              obtain ⟨b1, b2, b3, b4, b5⟩ := hs
              obtain ⟨xm, xh, xn, xb⟩ := xl
              simp only at b1 b2 b3 b4 hp
              subst b1 b2 b3
              simp only
              obtain ⟨w7, hw7⟩ : ∃ w7, w7 = w6.alloc (.cells #[.bool zm, .int .i64 zh, .string zn, .slice zo zl zc] 40) := ⟨_, rfl⟩
              have k67 : Kp [] w6 w7 := by rw [hw7]; exact (Kp.refl _ _).alloc _
              have hb7 : w7.heap[w6.heap.size]? = some (.cells #[.bool zm, .int .i64 zh, .string zn, .slice zo zl zc] 40 (0, 0)) := by rw [hw7]; exact heap_new _ _
              obtain ⟨gz, hgz⟩ : ∃ g, g = w6.heap.size := ⟨_, rfl⟩
              rw [← hgz] at hb7
              have hb57 := ((kt k6 k67).block _ hgl (by simp)).trans hb5
              have y2 : w7.cell? ⟨gy, 2, none⟩ = some (.string yn) := cell_of hb57 2
              have y3 : w7.cell? ⟨gy, 3, none⟩ = some (.slice yo yl yc) := cell_of hb57 3
              have z2 : w7.cell? ⟨gz, 2, none⟩ = some (.string zn) := cell_of hb7 2
              have z3 : w7.cell? ⟨gz, 3, none⟩ = some (.slice zo zl zc) := cell_of hb7 3
              have K7 : Hid (Kp [] w2 w7) := kt K5.out (kt k6 k67)
              have hyl : yl ≤ 6 := by rw [a4.len]; exact a5.1
              have hzl : zl ≤ 6 := by rw [b4.len]; exact b5.1
              have HAl := ref_alike_any w7 l xb yo zo yl yc zl zc ((Z5.kept (kt k6 k67)).rp) ((b4.kept k67).rp) (by omega) (by omega)
              rw [show alk zn xb (false, yh, yn, l) = ((yn.toList == zn.toList) && alike l xb) from rfl] at hp
              clear HA3 k6 k67 hb57 hb5 hb7 Z5 a4 a5 b4 b5 HLL hgl y0 HXL KX
              go_upto_region 20 with fail
              rw [← hw7, ← hgz]
              clear hw7 hgz
              cases hq : (yn.toList == zn.toList)
              · rw [hq] at hp
                simp only [Bool.false_and, Bool.false_eq_true, if_false, Nat.zero_add] at hp
                clear HAl
                go_wp2_with fail
                go_roundw
                case rel => exact ⟨j, m0, by omega, rfl, by go_num, K7.out, hp⟩
                case measure => simp [intOf]
              · rw [hq, Bool.true_and] at hp
                generalize alike l xb = z at HAl hp
                cases z
                · simp only [Bool.false_eq_true, if_false, Nat.zero_add] at hp
                  go_wp2_with (first | (go_at_call 17; refine HAl.mono ?_; rintro e w8 ⟨rfl, k8⟩; have K8 : Hid (Kp [] w2 w8) := kt K7.out k8; clear k8))
                  go_roundw
                  case rel => exact ⟨j, m0, by omega, rfl, by go_num, K8.out, hp⟩
                  case measure => simp [intOf]
                · simp only [if_true] at hp
                  have hm9 : m0 ≤ 3 := by have := HT.out; omega
                  go_wp2_with (first | (go_at_call 17; refine HAl.mono ?_; rintro e w8 ⟨rfl, k8⟩; have K8 : Hid (Kp [] w2 w8) := kt K7.out k8; clear k8))
                  go_roundw
                  case rel => exact ⟨j, m0 + 1, by omega, by go_num, by go_num, K8.out, by omega⟩
                  case measure => simp [intOf]
            · simp only [if_true] at hp
              have q9 : decide ((3 : Int) < (m0 : Int)) = false := decide_eq_false (by have := HT.out; omega)
              have H3 : Hid (Ok3 ys ∧ ys.length ≤ k + 1 ∧ Li w w5 q B2 ys ∧ Kp [] w w5) := ⟨HO2.out.1, HO2.out.2, LL.out w5 K5.out, kt KK.out K5.out⟩
              clear LL HXL HT KX Z5 a4 a5 hb5
              go_upto_region 18 with fail
              rw [← hw5, ← hgy]
              clear hw5 hgy k45
              go_wp2
              go_roundw
              case rel => exact ⟨k + 1, ys, B2, by omega, by omega, H3.out.2.1, H3.out.1, by go_num, H3.out.2.2.1, H3.out.2.2.2⟩
              case measure => simp [intOf]; omega
    · have hfin : ¬ k < n ∨ (k < n ∧ ¬ k < 60) := by omega
      have HX : Hid (Kp [] w wr) := kr
      have HKn := known_any wr
      clear hr kr hlt hA
      rcases hfin with g1 | ⟨g0, g1⟩
      all_goals
        go_wp2_with fail
        refine HKn.mono ?_
        rintro e w2 ⟨rfl, k2⟩
        have HX2 : Hid (Kp [] w w2) := kt HX.out k2
        clear k2 HX HKn
        go_wp2
        go_ret
        exact ⟨rfl, HX2.out⟩

end Go.Proofs.Ytadcpkdnpfmphaa.Ints
