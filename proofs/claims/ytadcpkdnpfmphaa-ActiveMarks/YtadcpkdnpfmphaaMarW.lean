/-
  ActiveMarks.
-/
import Derived.Test.YtadcpkdnpfmphaaKn
import Derived.Test.YtadcpkdnpfmphaaAin
import Derived.Test.YtadcpkdnpfmphaaMar
import Derived.Test.YtadcpkdnpfmphaaNam
import Derived.Test.YtadcpkdnpfmphaaRc
namespace Go.Proofs.Ytadcpkdnpfmphaa.Ints
open Go.RowKit
set_option linter.unusedSimpArgs false
set_option linter.unusedVariables false

theorem mod4' (k : Int) : IntKind.i64.wrap (k.tmod 4) = k.tmod 4 := by
  rw [IntKind.wrap_i64]
  have h1 := Int.tmod_lt_of_pos k (b := 4) (by omega)
  have h2 := Int.lt_tmod_of_pos k (b := 4) (by omega)
  omega

theorem Ms.app_ev {w w1 w2 : World} {ao : Option Addr} {n c : Nat} {zs : List Raw} (h : Ms w w1 ao n c zs) (kk : Kp (blk (.slice ao n c)) w1 w2) : Ev w (blk (.slice ao n c)) w1 w2 :=
  Ev.of_pil kk (fun x hx => ⟨h.2.2 x hx, fun cur t ht => Or.inr ⟨by
    rcases h.1.2 with ⟨h1, _⟩ | ⟨g, o, cap, cur', hv, hg, _⟩
    · rw [h1] at hx
      simp [blk] at hx
    · rw [hv] at hx
      simp [blk] at hx
      subst hx
      rw [hg] at ht
      simp only [Option.some.injEq, Obj.cells.injEq] at ht
      exact ht.2.1.symm, hx⟩⟩)

theorem Off.next {w : World} {B B' : List Nat} {so : Option Addr} {n c : Nat} {rl : List Raw} (h : Rs w so n c rl) (o : Off B so) (hB : ∀ k, k ∈ B' → k ∈ B ∨ w.heap.size ≤ k) : Off B' so := by
  intro a ha hm
  rcases h.at' with ⟨h1, _⟩ | ⟨b, off, cur, h1, h2, _⟩
  · rw [h1] at ha; cases ha
  · rw [h1] at ha
    simp only [Option.some.injEq] at ha
    subst ha
    rcases hB _ hm with h3 | h3
    · exact o _ h1 h3
    · have := lt_of h2
      simp only at h3
      omega

/-- A list of the laws stays, whatever a call turns of the program's. -/
theorem Nx.ls {w0 w w' : World} {q : Nat} {B : List Nat} {ys : List Ent} {so : Option Addr} {n c : Nat} {rl : List Raw} {zs : List Ent} (h : Nx w0 w q B ys w') (l : Ls w so n c rl zs) (o : Off B so) : ∃ B', Li w0 w' q B' ys ∧ Ls w' so n c rl zs ∧ Off B' so := by
  obtain ⟨⟨B', h1, h2⟩, h3⟩ := h
  exact ⟨B', h1, l.ev h3 o, Off.next l.rs o h2⟩

theorem mark_fn1 (w : World) (h : Int) : Calls Try.prog 20 #[.int .i64 h] w fun e w' => e = .returned (.bool false) ∧ w' = w := by
  go_enter Try.func20, Try.ntmps20
  go_wp2
  go_ret
  exact ⟨rfl, rfl⟩

theorem mark_fn2 (w : World) (h : Int) : Calls Try.prog 22 #[.int .i64 h] w fun e w' => e = .returned (.bool true) ∧ w' = w := by
  go_enter Try.func22, Try.ntmps22
  go_wp2
  go_ret
  exact ⟨rfl, rfl⟩

theorem mark_fn3 (w : World) (h : Int) : Calls Try.prog 23 #[.int .i64 h] w fun e w' => e = .returned (.bool false) ∧ w' = w := by
  go_enter Try.func23, Try.ntmps23
  go_wp2
  go_ret
  exact ⟨rfl, rfl⟩

set_option maxRecDepth 100000 in
set_option maxHeartbeats 8000000 in
theorem marks_walk (w : World) (ao : Option Addr) (n c : Nat) (F : Nat → Ask) (bo : Option Addr) (p d : Nat) (G : Nat → Ask) (hA : As w ao n c F) (hG : As w bo p d G) :
    Calls Try.prog 6 #[.slice ao n c, .slice bo p d] w fun e w' => e = .returned (.bool true) ∧ Kp [] w w' := by
  have H1 := new_list w w (Nat.le_refl _)
  have hnc := hA.1
  have hpd := hG.1
  have HG : Hid (As w bo p d G) := hG
  clear hG
  go_enter Try.func6, Try.ntmps6
  go_wp2_with fail
  refine H1.mono ?_
  rintro e w1 ⟨q, rfl, hL, k1⟩
  clear H1
  have HK1 : Hid (Kp [] w w1) := k1
  clear k1
  go_wp2
  go_loopw [6] (fun i wr => ∃ (k : Nat) (zs : List Ent) (B : List Nat), k ≤ 15 ∧ k ≤ n ∧ zs.length ≤ k ∧ Unm zs ∧ i = .int .i64 (k : Int) ∧ Li w wr q B zs ∧ Kp [] w wr) (fun i _ => n - (intOf i).toNat)
  case atStart => exact ⟨0, [], [], by omega, Nat.zero_le _, Nat.le_refl _, unm_nil, rfl, hL, HK1.out⟩
  case round =>
    obtain ⟨k, zs, B, hk, hkn, hz, hu, rfl, hr, kr⟩ := hrel
    clear hL HK1
    by_cases hlt : k < 15 ∧ k < n
    · obtain ⟨g1, g2⟩ := hlt
      obtain ⟨b, off, rfl, hc, hat⟩ := (hA.kept kr).2 k g2
      have c2 : wr.cell? ⟨b, off + k * 5 + 2, none⟩ = some (.int .i64 (F k).2.2.1) := by have := hc 2 (by omega); simpa [askc] using this
      generalize (F k).2.2.1 = N at c2
      have HN := names_any wr (N.tmod 4)
      have HP : Hid (∀ W, Kp [] wr W → Calls Try.prog 12 #[.pointer (some ⟨q, 0, none⟩), .int .i64 (k : Int), .string (nm (N.tmod 4)), .slice none 0 0] W fun e w' => e = .returned (.tuple #[]) ∧ Nx w wr q B (psh zs k (nm (N.tmod 4)) []) w') := fun W kW =>
        (push_list w W q B zs (k : Int) (nm (N.tmod 4)) [] none 0 0 (hr.kept kW) (Rz.nil _) (by omega) (fun a ha => by simp at ha) (by omega)).mono (fun e w' ⟨h1, h2⟩ => ⟨h1, h2.ahead kW⟩)
      have hm5 := mod4' N
      have O3 : Hid (Unm (psh zs k (nm (N.tmod 4)) []) ∧ (psh zs k (nm (N.tmod 4)) []).length ≤ zs.length + 1) := ⟨hu.psh k (nm (N.tmod 4)) [], psh_len zs k _ []⟩
      have q3 : (0 : Int) ≤ (k : Int) := by omega
      have q4 : (k : Int) < (n : Int) := by omega
      have KR : Hid (Kp [] w wr) := kr
      clear hc hat hr kr hu
      go_wp2_with fail
      refine HN.mono ?_
      rintro e w2 ⟨rfl, k2⟩
      have HP2 := HP.out w2 k2
      clear HP HN k2
      go_wp2_with fail
      refine HP2.mono ?_
      rintro e w3 ⟨rfl, ⟨B', l3, _⟩, e3⟩
      have H3 : Hid (Li w w3 q B' (psh zs k (nm (N.tmod 4)) []) ∧ Kp [] w w3) := ⟨l3, e3.kp KR.out⟩
      clear HP2 l3 e3
      go_wp2
      go_roundw
      case rel => exact ⟨k + 1, _, B', by omega, by omega, Nat.le_trans O3.out.2 (by omega), O3.out.1, by go_num, H3.out.1, H3.out.2⟩
      case measure => simp [intOf]; omega
    · have hfin : ¬ k < n ∨ (k < n ∧ ¬ k < 15) := by omega
      have hz15 : zs.length ≤ 15 := by omega
      have HL1 := len_list w wr q B zs hr
      have LL : Hid (∀ W, Kp [] wr W → Li w W q B zs) := fun W kW => hr.kept kW
      have KR : Hid (Kp [] w wr) := kr
      have HU : Hid (Unm zs) := hu
      clear hr kr hlt hA hu
      rcases hfin with g1 | ⟨g0, g1⟩
      all_goals
        go_wp2_with fail
        refine HL1.mono ?_
        rintro e w' ⟨rfl, hw⟩
        have hw2 := hw.symm
        clear hw
        subst hw2
        clear HL1
        obtain ⟨wb, hwb⟩ : ∃ x, x = wr := ⟨_, rfl⟩
        subst hwb
        go_wp2
        go_loopw [8, 9] (fun s i wx => ∃ (j : Nat) (so : Option Addr) (sn sc : Nat) (rl : List Raw), j ≤ zs.length ∧ i = .int .i64 (j : Int) ∧ s = .slice so sn sc ∧ Ms wb wx so sn sc rl ∧ Sms wx rl (zs.take j)) (fun _ i _ => zs.length - (intOf i).toNat)
        case atStart => exact ⟨0, none, 0, 0, [], Nat.zero_le _, rfl, rfl, Ms.nil _, trivial⟩
        case round =>
          obtain ⟨j, so, sn, sc, rl, hj, rfl, rfl, M, hsm⟩ := hrel
          by_cases hjl : j < zs.length
          · have hA1 := at_list w wr q B zs j (LL.out wr M.2.1) hjl
            have hsn := M.len
            have hsl := hsm.len
            have htk : zs.take (j + 1) = zs.take j ++ [zs[j]] := List.take_succ_eq_append_getElem hjl
            have HTK : Hid (zs.take (j + 1) = zs.take j ++ [zs[j]]) := htk
            clear htk
            generalize zs[j] = x at hA1 HTK
            unfold rv at hA1
            have hsn2 : sn ≤ 20 := by rw [hsn, hsl]; simp; omega
            have MM : Hid (Ms wb wr so sn sc rl) := M
            have SS : Hid (Sms wr rl (zs.take j)) := hsm
            clear M hsm hsn hsl
            go_wp2_with fail
            refine hA1.mono ?_
            rintro e w4 ⟨⟨xm, xh, xs, xo, xn, xc⟩, rfl, hs, k4⟩
            simp only
            obtain ⟨w5, hw5⟩ : ∃ w5, w5 = w4.alloc (.cells #[.bool xm, .int .i64 xh, .string xs, .slice xo xn xc] 40) := ⟨_, rfl⟩
            have k45 : Kp [] w4 w5 := by rw [hw5]; exact (Kp.refl _ _).alloc _
            have hb5 : w5.heap[w4.heap.size]? = some (.cells #[.bool xm, .int .i64 xh, .string xs, .slice xo xn xc] 40 (0, 0)) := by rw [hw5]; exact heap_new _ _
            obtain ⟨gy, hgy⟩ : ∃ g, g = w4.heap.size := ⟨_, rfl⟩
            rw [← hgy] at hb5
            have y0 : w5.cell? ⟨gy, 0, none⟩ = some (.bool xm) := cell_of hb5 0
            have y1 : w5.cell? ⟨gy, 1, none⟩ = some (.int .i64 xh) := cell_of hb5 1
            have y2 : w5.cell? ⟨gy, 2, none⟩ = some (.string xs) := cell_of hb5 2
            have y3 : w5.cell? ⟨gy, 3, none⟩ = some (.slice xo xn xc) := cell_of hb5 3
            have k56 : Kp [] w5 (w5.alloc (.cells #[.bool xm, .int .i64 xh, .string xs, .slice xo xn xc] 40)) := (Kp.refl _ _).alloc _
            obtain ⟨a7, n7, c7, w7, run7, M7, ⟨a7a, rfl⟩, hn7, kk7⟩ := (MM.out.kept (kt (kt k4 k45) k56)).app (src_lit (x := (xm, xh, xs, xo, xn, xc)) (cur := #[.bool xm, .int .i64 xh, .string xs, .slice xo xn xc]) (w1 := w5) rfl (heap_new _ _)) (fun _ => by omega) (by omega)
            have e7 := (MM.out.kept (kt (kt k4 k45) k56)).app_ev kk7
            have H7 : Hid (Ms wb w7 (some a7a) n7 c7 (rl ++ [(xm, xh, xs, xo, xn, xc)]) ∧ Sms w7 (rl ++ [(xm, xh, xs, xo, xn, xc)]) (zs.take (j + 1))) := by
              refine ⟨M7, ?_⟩
              rw [HTK.out]
              exact (Sms.ev e7 (SS.out.kept (kt (kt k4 k45) k56))).append' (Sms.one ((hs.kept (kt k45 k56)).ev e7))
            clear hA1 k4 k45 hb5 k56 M7 hn7 kk7 MM SS hs e7
            go_upto_region 14 with fail
            rw [← hw5, ← hgy]
            clear hw5 hgy
            go_wp2_with (at_builtin; refine Lib.wpList_append_run _ rfl _ _ _ _ rfl _ _ rfl rfl _ _ (run7 _) ?_)
            go_roundw
            case rel => exact ⟨j + 1, _, _, _, _, by omega, by go_num, rfl, H7.out.1, H7.out.2⟩
            case measure => simp [intOf]; omega
          · obtain rfl : j = zs.length := by omega
            rw [List.take_of_length_le (Nat.le_refl _)] at hsm
            have hB0 := (LL.out wb (Kp.refl _ _)).2
            have hls : Ls wr so sn sc rl zs := ⟨M.rs, hsm⟩
            have hoff := M.off B hB0
            have hsn := hls.len
            have HM := mark_list w wr q B zs (LL.out wr M.2.1) (by omega)
            have HK2 : Hid (Kp [] w wr) := kt KR.out M.2.1
            have HY : Hid (∀ W, Nx w wr q B (zs ++ [emk]) W → (∃ B', Li w W q B' (zs ++ [emk]) ∧ Ls W so sn sc rl zs ∧ Off B' so) ∧ Kp [] w W) := fun W hN => ⟨hN.ls hls hoff, hN.2.kp HK2.out⟩
            subst hsn
            clear M hsm hls hoff hB0 LL KR hj hjl
            go_wp2_with fail
            refine HM.mono ?_
            rintro e w2 ⟨rfl, hN⟩
            obtain ⟨⟨B2, l2, s2, o2⟩, k2⟩ := HY.out w2 hN
            clear HM HY hN HK2
            -- Find
            have HN0 := names_any w2 0
            have HF0 : Hid (∀ W, Kp [] w2 W → Calls Try.prog 18 #[.pointer (some ⟨q, 0, none⟩), .string (nm 0)] W fun e w' => (∃ r, e = .returned (.tuple #[rv r, .bool false]) ∧ Sm w' r e0) ∧ Kp [] W w') := fun W kW => by
              have h1 := find_list w W q B2 (zs ++ [emk]) (nm 0) (l2.kept kW) (by simp; omega)
              rw [fnm_mark] at h1
              exact h1
            have H2 : Hid ((∀ W, Kp [] w2 W → Li w W q B2 (zs ++ [emk]) ∧ Ls W so zs.length sc rl zs) ∧ Off B2 so ∧ Kp [] w w2) := ⟨fun W kW => ⟨l2.kept kW, s2.kept kW⟩, o2, k2⟩
            clear l2 s2 o2 k2
            generalize nm 0 = x0 at HN0 HF0
            go_wp2_with fail
            refine HN0.mono ?_
            rintro e w3 ⟨rfl, k3⟩
            have HF3 := HF0.out w3 k3
            have K3 : Hid (Kp [] w2 w3) := k3
            unfold rv at HF3
            clear HN0 HF0 k3
            go_wp2_with fail
            refine HF3.mono ?_
            rintro e w4 ⟨⟨⟨xm, xh, xs, xo, xn, xc⟩, rfl, _⟩, k4⟩
            simp only
            have k5 : Kp [] w2 (w4.alloc (.cells #[.bool xm, .int .i64 xh, .string xs, .slice xo xn xc] 40)) := (kt K3.out k4).alloc _
            have HFr := from_m1 w _ q B2 (zs ++ [emk]) (fun _ => false) (H2.out.1 _ k5).1 (by simp; omega) (fun W h kW => mark_fn1 W h)
            rw [frm_mark] at HFr
            have K5 : Hid (Kp [] w2 (w4.alloc (.cells #[.bool xm, .int .i64 xh, .string xs, .slice xo xn xc] 40))) := k5
            have hw1 : ((zs.length + 1 : Nat) : Int) = (zs.length : Int) + 1 := by omega
            rw [hw1] at HFr
            have hw2 : IntKind.i64.wrap ((zs.length : Int) + 1) = (zs.length : Int) + 1 := by rw [IntKind.wrap_i64]; omega
            clear HF3 k4 k5 K3
            go_wp2_with fail
            refine HFr.mono ?_
            rintro e w6 ⟨rfl, k6⟩
            have K6 : Hid (Kp [] w2 w6) := kt K5.out k6
            clear HFr k6 K5 hw1 hw2
            obtain ⟨H2a, H2b, H2c⟩ := H2.out
            have st : Li w w6 q B2 (zs ++ [emk] ++ []) ∧ Ls w6 so zs.length sc rl zs := by
              rw [List.append_nil]
              exact H2a w6 K6.out
            have HST : Hid ((Li w w6 q B2 (zs ++ [emk] ++ []) ∧ Ls w6 so zs.length sc rl zs) ∧ Off B2 so ∧ Kp [] w w6) := ⟨st, H2b, kt H2c K6.out⟩
            clear H2 H2a H2b H2c K6 st
            go_wp2
            go_loopw [14] (fun i wx => ∃ (k3 : Nat) (ts : List Ent) (B3 : List Nat), k3 ≤ 15 ∧ k3 ≤ p ∧ ts.length ≤ k3 ∧ Unm ts ∧ i = .int .i64 (k3 : Int) ∧ Li w wx q B3 (zs ++ [emk] ++ ts) ∧ Ls wx so zs.length sc rl zs ∧ Off B3 so ∧ Kp [] w wx) (fun i _ => p - (intOf i).toNat)
            case atStart => exact ⟨0, [], B2, by omega, Nat.zero_le _, Nat.le_refl _, unm_nil, rfl, HST.out.1.1, HST.out.1.2, HST.out.2.1, HST.out.2.2⟩
            case round =>
              obtain ⟨k3, ts, B3, hk3, hkp, hts, hut, rfl, l3, s3, o3, kr3⟩ := hrel
              clear HST
              by_cases hlt : k3 < 15 ∧ k3 < p
              · obtain ⟨g3, g4⟩ := hlt
                obtain ⟨b, off, hbo, hc, hat⟩ := (HG.out.kept kr3).2 k3 g4
                have c2 : wr.cell? ⟨b, off + k3 * 5 + 2, none⟩ = some (.int .i64 (G k3).2.2.1) := by have := hc 2 (by omega); simpa [askc] using this
                generalize (G k3).2.2.1 = N at c2
                have HN := names_any wr (N.tmod 4)
                obtain ⟨ts', e1, e2, e3⟩ := psh_behind zs ts hut (100 + (k3 : Int)) (nm (N.tmod 4)) []
                have HP : Hid (∀ W, Kp [] wr W → Calls Try.prog 12 #[.pointer (some ⟨q, 0, none⟩), .int .i64 (100 + (k3 : Int)), .string (nm (N.tmod 4)), .slice none 0 0] W fun e w' => e = .returned (.tuple #[]) ∧ Nx w wr q B3 (zs ++ [emk] ++ ts') w') := fun W kW => by
                  have h1 := push_list w W q B3 (zs ++ [emk] ++ ts) (100 + (k3 : Int)) (nm (N.tmod 4)) [] none 0 0 (l3.kept kW) (Rz.nil _) (by omega) (fun a ha => by simp at ha) (by simp; omega)
                  rw [e1] at h1
                  exact h1.mono (fun e w' ⟨h1, h2⟩ => ⟨h1, h2.ahead kW⟩)
                have hm5 := mod4' N
                have h100 : IntKind.i64.wrap (100 + (k3 : Int)) = 100 + (k3 : Int) := by rw [IntKind.wrap_i64]; omega
                have q3 : (0 : Int) ≤ (k3 : Int) := by omega
                have q4 : (k3 : Int) < (p : Int) := by omega
                have HY : Hid (∀ W, Nx w wr q B3 (zs ++ [emk] ++ ts') W → (∃ B', Li w W q B' (zs ++ [emk] ++ ts') ∧ Ls W so zs.length sc rl zs ∧ Off B' so) ∧ Kp [] w W) := fun W hN => ⟨hN.ls s3 o3, hN.2.kp kr3⟩
                have HU3 : Hid (Unm ts' ∧ ts'.length ≤ k3 + 1) := ⟨e2, by omega⟩
                subst hbo
                clear hc hat l3 s3 o3 kr3 hut e1 e2 e3
                go_wp2_with fail
                refine HN.mono ?_
                rintro e w7 ⟨rfl, k7⟩
                have HP2 := HP.out w7 k7
                clear HP HN k7
                go_wp2_with fail
                refine HP2.mono ?_
                rintro e w8 ⟨rfl, hN⟩
                have H8 := Hid.mk (HY.out w8 hN)
                clear HP2 HY hN
                obtain ⟨⟨B8, l8, s8, o8⟩, k8⟩ := H8.out
                have H9 : Hid (Li w w8 q B8 (zs ++ [emk] ++ ts') ∧ Ls w8 so zs.length sc rl zs ∧ Off B8 so ∧ Kp [] w w8) := ⟨l8, s8, o8, k8⟩
                clear H8 l8 s8 o8 k8
                go_wp2
                go_roundw
                case rel => exact ⟨k3 + 1, ts', B8, by omega, by omega, HU3.out.2, HU3.out.1, by go_num, H9.out.1, H9.out.2.1, H9.out.2.2.1, H9.out.2.2.2⟩
                case measure => simp [intOf]; omega
              · have HC := clear_list w wr q B3 (zs ++ [emk] ++ ts) l3 (by simp; omega)
                rw [clr_behind zs ts hut] at HC
                have HY : Hid (∀ W, Nx w wr q B3 zs W → (∃ B', Li w W q B' zs ∧ Ls W so zs.length sc rl zs ∧ Off B' so) ∧ Kp [] w W) := fun W hN => ⟨hN.ls s3 o3, hN.2.kp kr3⟩
                have hfin2 : ¬ k3 < p ∨ (k3 < p ∧ ¬ k3 < 15) := by omega
                clear l3 s3 o3 kr3 hut hlt
                rcases hfin2 with i1 | ⟨i0, i1⟩
                all_goals
                  go_wp2_with fail
                  refine HC.mono ?_
                  rintro e w7 ⟨rfl, hN⟩
                  obtain ⟨⟨B7, l7, s7, _⟩, k7⟩ := HY.out w7 hN
                  have HL7 := len_list w w7 q B7 zs l7
                  have H7 : Hid ((∀ W, Kp [] w7 W → Li w W q B7 zs ∧ Ls W so zs.length sc rl zs) ∧ Kp [] w w7) := ⟨fun W kW => ⟨l7.kept kW, s7.kept kW⟩, k7⟩
                  clear HC HY hN l7 s7 k7
                  go_wp2_with fail
                  refine HL7.mono ?_
                  rintro e w' ⟨rfl, hw⟩
                  have hw2 := hw.symm
                  clear hw
                  subst hw2
                  clear HL7
                  go_wp2
                  go_loopw [15] (fun i wx => ∃ j : Nat, j ≤ zs.length ∧ i = .int .i64 (j : Int) ∧ Kp [] w7 wx) (fun i _ => zs.length - (intOf i).toNat)
                  case atStart => exact ⟨0, Nat.zero_le _, rfl, Kp.refl _ _⟩
                  case round =>
                    obtain ⟨j, hj, rfl, kx⟩ := hrel
                    have KX : Hid (Kp [] w7 wr) := kx
                    clear kx
                    by_cases hjl : j < zs.length
                    · have hA1 := at_list w wr q B7 zs j (H7.out.1 wr KX.out).1 hjl
                      obtain ⟨bb, of, vo, vn, vc, hbo, c0, c1, c2, c3, _, _, hsm⟩ := (H7.out.1 wr KX.out).2.get j hjl
                      have CZ : Hid (∀ W, Kp [] wr W → W.cell? ⟨bb, of + j * 4, none⟩ = some (.bool zs[j].1) ∧ W.cell? ⟨bb, of + j * 4 + 1, none⟩ = some (.int .i64 zs[j].2.1) ∧ W.cell? ⟨bb, of + j * 4 + 2, none⟩ = some (.string zs[j].2.2.1) ∧ W.cell? ⟨bb, of + j * 4 + 3, none⟩ = some (.slice vo vn vc) ∧ Sm W (zs[j].1, zs[j].2.1, zs[j].2.2.1, vo, vn, vc) zs[j]) := fun W kW => by
                        refine ⟨?_, ?_, ?_, ?_, hsm.kept kW⟩
                        · rw [kW.cell (block_lt_of_cell c0) (by simp)]; exact c0
                        · rw [kW.cell (block_lt_of_cell c1) (by simp)]; exact c1
                        · rw [kW.cell (block_lt_of_cell c2) (by simp)]; exact c2
                        · rw [kW.cell (block_lt_of_cell c3) (by simp)]; exact c3
                      generalize zs[j] = x at hA1 CZ
                      have q3 : (0 : Int) ≤ (j : Int) := by omega
                      have q4 : (j : Int) < (zs.length : Int) := by omega
                      clear c0 c1 c2 c3 hsm
                      unfold rv at hA1
                      go_wp2_with fail
                      refine hA1.mono ?_
                      rintro e w4 ⟨⟨ym, yh, yn, yo, yl, yc⟩, rfl, hy, k4⟩
                      simp only
                      obtain ⟨w5, hw5⟩ : ∃ w5, w5 = w4.alloc (.cells #[.bool ym, .int .i64 yh, .string yn, .slice yo yl yc] 40) := ⟨_, rfl⟩
                      have k45 : Kp [] w4 w5 := by rw [hw5]; exact (Kp.refl _ _).alloc _
                      have k5 : Kp [] wr w5 := kt k4 k45
                      have hb5 : w5.heap[w4.heap.size]? = some (.cells #[.bool ym, .int .i64 yh, .string yn, .slice yo yl yc] 40 (0, 0)) := by rw [hw5]; exact heap_new _ _
                      have K5 : Hid (Kp [] w7 w5) := kt KX.out k5
                      obtain ⟨gy, hgy⟩ : ∃ g, g = w4.heap.size := ⟨_, rfl⟩
                      rw [← hgy] at hb5
                      obtain ⟨xm, xh, xs, xl⟩ := x
                      simp only at CZ
                      have CC : Hid (∀ W, Kp [] w5 W → W.cell? ⟨gy, 0, none⟩ = some (.bool ym) ∧ W.cell? ⟨gy, 1, none⟩ = some (.int .i64 yh) ∧ W.cell? ⟨gy, 2, none⟩ = some (.string yn) ∧ W.cell? ⟨gy, 3, none⟩ = some (.slice yo yl yc) ∧
                          W.cell? ⟨bb, of + j * 4, none⟩ = some (.bool xm) ∧ W.cell? ⟨bb, of + j * 4 + 1, none⟩ = some (.int .i64 xh) ∧ W.cell? ⟨bb, of + j * 4 + 2, none⟩ = some (.string xs) ∧ W.cell? ⟨bb, of + j * 4 + 3, none⟩ = some (.slice vo vn vc)) := fun W kW => by
                        have h2 := (kW.block _ (lt_of hb5) (by simp)).trans hb5
                        obtain ⟨z0, z1, z2, z3, _⟩ := CZ.out W (kt k5 kW)
                        exact ⟨cell_of h2 0, cell_of h2 1, cell_of h2 2, cell_of h2 3, z0, z1, z2, z3⟩
                      have HSm : Hid (∀ W, Kp [] w5 W → Calls Try.prog 21 #[.agg #[.bool ym, .int .i64 yh, .string yn, .slice yo yl yc], .agg #[.bool xm, .int .i64 xh, .string xs, .slice vo vn vc]] W fun e w' => e = .returned (.bool true) ∧ Kp [] W w') := fun W kW => same_any W (ym, yh, yn, yo, yl, yc) (xm, xh, xs, vo, vn, vc) _ (hy.kept (kt k45 kW)) (CZ.out W (kt k5 kW)).2.2.2.2
                      clear hA1 k4 k5 k45 hb5 CZ hy
                      subst hbo
                      go_upto_region 34 with fail
                      rw [← hw5, ← hgy]
                      clear hw5 hgy
                      go_region_held3 (fun V => V.cell? ⟨gy, 0, none⟩ = some (.bool ym) ∧ V.cell? ⟨gy, 1, none⟩ = some (.int .i64 yh) ∧ V.cell? ⟨gy, 2, none⟩ = some (.string yn) ∧ V.cell? ⟨gy, 3, none⟩ = some (.slice yo yl yc) ∧
                          V.cell? ⟨bb, of + j * 4, none⟩ = some (.bool xm) ∧ V.cell? ⟨bb, of + j * 4 + 1, none⟩ = some (.int .i64 xh) ∧ V.cell? ⟨bb, of + j * 4 + 2, none⟩ = some (.string xs) ∧ V.cell? ⟨bb, of + j * 4 + 3, none⟩ = some (.slice vo vn vc))
                        (first | with_reducible exact CC.out _ S1.out | exact CC.out _ (Kp.refl [] w5).drew)
                        (first | (go_at_call 21; refine (HSm.out _ (Kp.refl [] w5).drew).mono ?_; rintro e v1 ⟨rfl, kk⟩; have S1 : Hid (Kp [] w5 v1) := kt (Kp.refl [] w5).drew kk; clear kk))
                      all_goals (have KZ : Hid (Kp [] w7 v1) := kt K5.out S1.out; clear S1 CC HSm)
                      all_goals go_wp2
                      all_goals go_roundw
                      case rel => exact ⟨j + 1, by omega, by go_num, KZ.out⟩
                      case measure => simp [intOf]; omega
                    · obtain rfl : j = zs.length := by omega
                      have HF2 := from_m2 w wr q B7 zs (fun _ => true) (H7.out.1 wr KX.out).1 (by omega) (fun W h kW => mark_fn2 W h)
                      rw [frm_true] at HF2
                      have HF3 : Hid (∀ W, Kp [] wr W → Calls Try.prog 19 #[.pointer (some ⟨q, 0, none⟩), .func (.func 23) #[] #[]] W fun e w' => e = .returned (.int .i64 0) ∧ Kp [] W w') := fun W kW => by
                        have h1 := from_m3 w W q B7 zs (fun _ => false) (H7.out.1 W (kt KX.out kW)).1 (by omega) (fun W h kW => mark_fn3 W h)
                        rw [frm_false zs HU.out] at h1
                        exact h1
                      have KW7 : Hid (Kp [] w wr) := kt H7.out.2 KX.out
                      clear H7 KX
                      go_wp2_with fail
                      refine HF2.mono ?_
                      rintro e w8 ⟨rfl, k8⟩
                      have HF4 := HF3.out w8 k8
                      have K8 : Hid (Kp [] w w8) := kt KW7.out k8
                      clear HF2 HF3 k8
                      go_wp2_with fail
                      refine HF4.mono ?_
                      rintro e w9 ⟨rfl, k9⟩
                      have HKn := known_any w9
                      have K9 : Hid (Kp [] w w9) := kt K8.out k9
                      clear HF4 k9
                      go_wp2_with fail
                      refine HKn.mono ?_
                      rintro e w10 ⟨rfl, k10⟩
                      have K10 : Hid (Kp [] w w10) := kt K9.out k10
                      clear HKn k10
                      go_wp2
                      go_ret
                      exact ⟨rfl, K10.out⟩

end Go.Proofs.Ytadcpkdnpfmphaa.Ints
