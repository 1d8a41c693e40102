/-
  OpenTexts.
-/
import Derived.Test.YtpadnfpifldoaaaTex
import Derived.Test.YtpadnfpifldoaaaStp
namespace Go.Proofs.Ytpadnfpifldoaaa.Ints
open Go.RowKit
set_option linter.unusedSimpArgs false

theorem sct {w0 w : World} {q : Nat} {ps : List Strs.It} (hL : Strs.Li w0 w q ps) (hl : ps.length < 90000) (g : Nat) (s : ByteArray) (hg : w.heap[g]? = some (.cells #[.string s] 9 (0, 0))) (k : Int) :
    Calls Try.prog 15 #[.pointer (some ⟨q, 0, none⟩), .int .i64 k, .slice (some ⟨g, 0, none⟩) 1 1] w fun e w' => e = .returned (.bool (scp k [s] ps)) ∧ Kp [] w w' :=
  Strs.scope_list w0 w q ps k [s] _ 1 1 hL ⟨rfl, Nat.le_refl _, fun j _ => ⟨g, 0, rfl, by rw [cell_of hg]; simp [tx]⟩⟩ (by omega) (by omega)

theorem lsct {w : World} {bo : Option Addr} {m d : Nat} {zs : List It} (hz : Rs w bo m d zs) (hl : m < 100000) (g : Nat) (s : ByteArray) (hg : w.heap[g]? = some (.cells #[.string s] 9 (0, 0))) (k : Int) :
    Calls Try.prog 16 #[.slice bo m d, .int .i64 k, .slice (some ⟨g, 0, none⟩) 1 1] w fun e w' => e = .returned (.bool (scp k [s] zs)) ∧ Kp [] w w' :=
  lscope_any w zs k [s] bo m d _ 1 1 hz ⟨rfl, Nat.le_refl _, fun j _ => ⟨g, 0, rfl, by rw [cell_of hg]; simp [tx]⟩⟩ (by omega) hl

set_option maxRecDepth 100000 in
set_option maxHeartbeats 4000000 in
theorem texts_walk (w : World) (ao : Option Addr) (n c : Nat) (F : Nat → Ask) (hh : ByteArray) (hs : hh.size ≤ 140737488355328) (hA : As w ao n c F) :
    Calls Try.prog 5 #[.slice ao n c, .string hh] w fun e w' => e = .returned (.bool true) ∧ Kp [] w w' := by
  have H1 := Strs.new_list w w (Nat.le_refl _)
  have hnc := hA.1
  go_enter Try.func5, Try.ntmps5
  go_wp2_with fail
  refine H1.mono ?_
  rintro e w1 ⟨q, rfl, hL, k1⟩
  clear H1
  have HK1 : Hid (Kp [] w w1) := k1
  have HM1 : Hid (Ms w w1 none 0 0 []) := (Ms.nil w).kept k1
  clear k1
  go_wp2
  go_loopw [6, 7] (fun l i wr => ∃ k : Nat, ∃ zs : List It, ∃ bo d, k ≤ 20 ∧ k ≤ n ∧ zs.length = k ∧ l = .slice bo k d ∧ i = .int .i64 k ∧ Strs.Li w wr q (tg hh zs) ∧ Kp [] w wr ∧ Ms w wr bo k d zs ∧ (k = 0 → bo = none)) (fun _ i _ => n - (intOf i).toNat)
  case atStart => exact ⟨0, [], none, 0, by omega, Nat.zero_le _, rfl, rfl, rfl, hL, HK1.out, HM1.out, fun _ => rfl⟩
  case round =>
    obtain ⟨k, zs, bo, d, hk, hkn, hz, rfl, rfl, hr, kr, hm, hb⟩ := hrel
    clear hL HK1 HM1
    by_cases hlt : k < 20 ∧ k < n
    · obtain ⟨g1, g2⟩ := hlt
      obtain ⟨b, off, rfl, c0, c1, c2, c3, c4⟩ := (hA.kept kr).2 k g2
      have HEl := el_any wr (F k)
      generalize F k = a at c0 c1 c2 c3 c4 HEl
      obtain ⟨kd, h, n', m', svg⟩ := a
      generalize elF (kd, h, n', m', svg) = x at HEl
      obtain ⟨xh, xn, xs⟩ := x
      unfold av at HEl
      unfold iv at HEl
      simp only at c0 c1 c2 c3 c4 HEl
      have HP : Hid (∀ w3, Kp [] wr w3 → Calls Try.prog 13 #[.pointer (some ⟨q, 0, none⟩), .agg #[.string (hh ++ Utf8.encode (97 + (k : Int))), .int .i64 xn, .string xs, .slice none 0 0]] w3 fun e w' => e = .returned (.tuple #[]) ∧ Strs.Li w w' q (tg hh (zs ++ [(xh, xn, xs)])) ∧ Ev w w3 w') := fun w3 k3 => by
        have := Strs.push_list w w3 q (tg hh zs) (hn hh k, xn, xs) (hr.kept k3) (by rw [tg_len]; omega)
        rw [tg_snoc, hz]
        exact this
      have HM : Hid (Kp [] w wr ∧ Ms w wr bo k d zs ∧ (k = 0 → bo = none) ∧ zs.length = k) := ⟨kr, hm, hb, hz⟩
      clear kr hm hb hz hr
      go_wp2_with fail
      refine HEl.mono ?_
      rintro e w3 ⟨rfl, k3⟩
      have K3 : Hid (Kp [] wr w3) := k3
      clear HEl k3 c0 c1 c2 c3 c4
      have HC := hn_fit hh hs
      go_wp2_with fail
      clear HC
      have H5 := HP.out _ (K3.out.alloc (.cells #[.int .i64 xh, .int .i64 xn, .string xs, .slice none 0 0] 36))
      refine H5.mono ?_
      rintro e w5 ⟨rfl, l5, e5⟩
      obtain ⟨kr, hm, hb, hz⟩ := HM.out
      have hbx := (bx_new w3 (xh, xn, xs)).ev e5
      obtain ⟨g9, hg9, d0, d1, d2, d3⟩ := hbx.out
      simp only [Option.some.injEq, Addr.mk.injEq, and_true] at hg9
      subst hg9
      have k6 : Kp [] w5 (w5.alloc (.cells #[.int .i64 xh, .int .i64 xn, .string xs, .slice none 0 0] 36)) := (Kp.refl _ _).alloc _
      have hm5 := (((hm.kept K3.out).kept ((Kp.refl _ _).alloc (.cells #[.int .i64 xh, .int .i64 xn, .string xs, .slice none 0 0] 36))).ev e5).kept k6
      have hsr : Src Try.prog 4 24 (.slice (some ⟨w5.heap.size, 0, none⟩) 1 1) 1 (cz [(xh, xn, xs)]) (w5.alloc (.cells #[.int .i64 xh, .int .i64 xn, .string xs, .slice none 0 0] 36)) := (Ms.lit w5 (xh, xn, xs)).rs.src
      obtain ⟨ao', c', w7, hrun, M7, ⟨a7, rfl⟩, _, S7, k7, hS7⟩ := hm5.more hsr (by omega) hb
      have HR7 : Hid (Strs.Li w w7 q (tg hh (zs ++ [(xh, xn, xs)])) ∧ Kp [] w w7 ∧ Ms w w7 (some a7) (k + 1) c' (zs ++ [(xh, xn, xs)])) := ⟨(l5.kept k6).side k7 hS7, M7.2.1, M7⟩
      have HZ : Hid (zs.length = k) := hz
      clear l5 e5 kr hm hb hz hbx k6 hm5 hsr M7 H5 HP HM K3 k7 hS7
      go_wp2_with (at_builtin; refine Lib.wpList_append_run _ rfl _ _ _ _ rfl _ _ rfl rfl _ _ (hrun _) ?_)
      go_roundw
      case rel => exact ⟨k + 1, _, some a7, c', by omega, by omega, by rw [List.length_append, HZ.out]; rfl, by go_num, by go_num, HR7.out.1, HR7.out.2.1, HR7.out.2.2, fun h => by omega⟩
      case measure => simp [intOf]; omega
    · obtain rfl : zs.length = k := hz
      have HX : Hid (Strs.Li w wr q (tg hh zs) ∧ Kp [] w wr ∧ Rs wr bo zs.length d zs) := ⟨hr, kr, hm.rs⟩
      have hkb : zs.length ≤ d := hm.rs.cap
      have hfin : ¬ zs.length < n ∨ (zs.length < n ∧ ¬ zs.length < 20) := by omega
      clear hr kr hm hb hlt hA
      obtain ⟨wb, hwb⟩ : ∃ x, x = wr := ⟨_, rfl⟩
      rw [← hwb] at HX
      rcases hfin with g1 | ⟨g0, g1⟩
      all_goals
        go_wp2
        rw [← hwb]
        clear hwb
        go_loopw [9] (fun i wq => ∃ j : Nat, j ≤ zs.length ∧ i = .int .i64 j ∧ Kp [] wb wq) (fun i _ => zs.length - (intOf i).toNat)
        case atStart => exact ⟨0, Nat.zero_le _, rfl, Kp.refl _ _⟩
        case round =>
          obtain ⟨j, hj, rfl, kq⟩ := hrel
          obtain ⟨wx, hwx⟩ : ∃ x, x = wr := ⟨_, rfl⟩
          subst hwx
          have l4 := HX.out.1.kept kq
          have r4 := HX.out.2.2.kept kq
          have KQ : Hid (Kp [] wb wx) := kq
          by_cases hjl : j < zs.length
          · obtain ⟨b2, o2, rfl, f0, f1, f2, f3⟩ := r4.get j hjl
            have CC : Hid (∀ W, Kp [] wx W → W.cell? ⟨b2, o2 + j * 4 + 2, none⟩ = some (.string zs[j].2.2)) := fun W kW => by
              obtain ⟨b', o', hb', _, _, e2, _⟩ := (r4.kept kW).get j hjl
              simp only [Option.some.injEq, Addr.mk.injEq, and_true] at hb'
              obtain ⟨rfl, rfl⟩ := hb'
              exact e2
            have HPl : Hid (∀ W, Kp [] wx W → Calls Try.prog 14 #[.pointer (some ⟨q, 0, none⟩), .string (hh ++ Utf8.encode (97 + (j : Int)))] W fun e w' => e = .returned (.int .i64 (j : Int)) ∧ Kp [] W w') := fun W kW => by
              have := Strs.place_list w W q (tg hh zs) (hn hh j) (l4.kept kW) (by rw [tg_len]; omega)
              rw [tg_plc hh zs j hjl (by omega)] at this
              exact this
            have HSc : Hid (∀ W g s k, Kp [] wx W → W.heap[g]? = some (.cells #[.string s] 9 (0, 0)) → Calls Try.prog 15 #[.pointer (some ⟨q, 0, none⟩), .int .i64 k, .slice (some ⟨g, 0, none⟩) 1 1] W fun e w' => e = .returned (.bool (scp k [s] zs)) ∧ Kp [] W w') := fun W g s k kW hg => by
              have := sct (l4.kept kW) (by rw [tg_len]; omega) g s hg k
              rw [scp_alike k [s] (tg hh zs) zs (tg_map hh zs)] at this
              exact this
            have HLs : Hid (∀ W g s k, Kp [] wx W → W.heap[g]? = some (.cells #[.string s] 9 (0, 0)) → Calls Try.prog 16 #[.slice (some ⟨b2, o2, none⟩) zs.length d, .int .i64 k, .slice (some ⟨g, 0, none⟩) 1 1] W fun e w' => e = .returned (.bool (scp k [s] zs)) ∧ Kp [] W w') := fun W g s k kW hg => lsct (r4.kept kW) (by omega) g s hg k
            generalize zs[j].2.2 = y at CC f2
            have S1 : Hid (scp 1 [y] zs = scp 1 [y] zs) := rfl
            generalize hB1 : scp 1 [y] zs = B1 at S1
            generalize hB3 : scp 3 [⟨#[112]⟩] zs = B3 at S1
            have HB1 : Hid (scp 1 [y] zs = B1) := hB1
            have HB3 : Hid (scp 3 [⟨#[112]⟩] zs = B3) := hB3
            have HC := hn_fit hh hs
            have hj20 : j < 20 := by omega
            have hwr0 : IntKind.i32.wrap (IntKind.i64.wrap (97 + (j : Int))) = 97 + (j : Int) := by
              rw [show IntKind.i64.wrap (97 + (j : Int)) = 97 + (j : Int) by rw [IntKind.wrap_i64]; omega, IntKind.wrap_i32]
              omega
            have hwr : Hid (_ = _) := hwr0
            clear hwr0
            clear l4 r4 kq f0 f1 f3 hB1 hB3 S1
            go_wp2_with fail
            obtain ⟨U0, hU0⟩ : ∃ V, V = wx.drew := ⟨_, rfl⟩
            have K0 : Hid (Kp [] wx U0) := by rw [hU0]; exact (Kp.refl _ _).drew
            refine wp_region_g (S := fun V => V.cell? ⟨b2, o2 + j * 4 + 2, none⟩ = some (.string y)) (T := []) (by kernel_rfl) (CC.out _ (Kp.refl [] wx).drew) (fun hHeld => ?_)
            rw [← hU0] at hHeld ⊢
            clear hU0
            refine g_pure 0 (some 51) (.move (.tmp 5)) ?_
            refine g_pure 1 (some 52) (.move (.tmp 1)) ?_
            refine g_pure 2 (some 53) (.move (.tmp 9)) ?_
            refine g_pure 3 (some 54) (.binOp .add 3 (.const (.int .i64 97)) (.tmp 53) 3) ?_
            refine g_take 4 (some 55) (.convert 3 21 (.tmp 54)) (by intro w hSw; (have q0 := hSw); go_simp; try with_reducible rfl) ?_
            refine g_take 5 (some 56) (.convert 21 9 (.tmp 55)) (by intro w hSw; (have q0 := hSw); go_simp; try with_reducible rfl) ?_
            refine g_pure 6 (some 57) (.binOp .add 9 (.tmp 52) (.tmp 56) 9) ?_
            refine g_pure 8 (some 59) (.move (.tmp 9)) ?_
            refine wpAnyG_ready (rs := [7]) (by kernel_rfl) (by simp) ?_
            refine AllReadyG.cons (o := ⟨some 58, .call { callee := .value (.func 14), args := #[.tmp 51, .tmp 57], argTypes := #[32, 9] }, 3, _, _, none⟩) rfl (fun K hK => ?_) AllReadyG.nil
            go_simp
            go_at_call 14
            rw [hwr.out]
            refine (HPl.out U0 K0.out).mono ?_
            rintro e U1 ⟨rfl, kk⟩
            have K1 : Hid (Kp [] wx U1) := kt K0.out kk
            clear kk
            go_wp2_with fail
            refine hK.out _ _ (CC.out _ K1.out) (fun hHeld1 => ?_)
            clear hK K hHeld
            try simp only [Act.put, pu1, pu2, pu3]
            refine g_pure 9 (some 60) (.binOp .neq 3 (.tmp 58) (.tmp 59) 3) ?_
            refine g_pure 10 (some 61) (.move (.tmp 60)) ?_
            refine g_pure 11 (some 62) (.move (.tmp 5)) ?_
            refine g_pure 12 (some 63) (.move (.tmp 6)) ?_
            refine g_pure 13 (some 64) (.move (.tmp 9)) ?_
            refine g_pure 14 (some 65) (.indexAddr 24 (.tmp 63) (.tmp 64)) ?_
            refine g_pure 15 (some 66) (.fieldAddr 36 (.tmp 65) 2) ?_
            refine g_take 16 (some 67) (.load 9 (.tmp 66)) (by intro w hSw; (have q0 := hSw); go_simp; try with_reducible rfl) ?_
            refine g_pure 19 (some 70) (.move (.tmp 6)) ?_
            refine g_pure 20 (some 71) (.move (.tmp 6)) ?_
            refine g_pure 21 (some 72) (.move (.tmp 9)) ?_
            refine g_pure 22 (some 73) (.indexAddr 24 (.tmp 71) (.tmp 72)) ?_
            refine g_pure 23 (some 74) (.fieldAddr 36 (.tmp 73) 2) ?_
            refine g_take 24 (some 75) (.load 9 (.tmp 74)) (by intro w hSw; (have q0 := hSw); go_simp; try with_reducible rfl) ?_
            refine wpAnyG_ready (rs := [17, 25]) (by kernel_rfl) (by simp) ?_
            refine AllReadyG.cons (o := ⟨some 68, .buildSlice 72 1 #[(0, .tmp 67)], 72, _, _, some (10, false)⟩) rfl (fun K hK => ?_) ?_
            · go_simp
              obtain ⟨U2, hU2⟩ : ∃ V, V = U1.alloc (.cells #[.string y] 9) := ⟨_, rfl⟩
              have kk : Kp [] U1 U2 := by rw [hU2]; exact (Kp.refl _ _).alloc _
              have K2 : Hid (Kp [] wx U2) := kt K1.out kk
              have L17 : U2.heap[U1.heap.size]? = some (.cells #[.string y] 9 (0, 0)) := by rw [hU2]; exact heap_new _ _
              rw [← hU2]
              clear hU2 kk
              refine hK.out _ _ (CC.out _ K2.out) (fun hHeld2 => ?_)
              clear hK K hHeld1
              try simp only [Act.put, pu1, pu2, pu3]
              refine wpAnyG_ready (rs := [18, 25]) (by kernel_rfl) (by simp) ?_
              refine AllReadyG.cons (o := ⟨some 69, .call { callee := .value (.func 15), args := #[.tmp 62, .const (.int .i64 1), .tmp 68], argTypes := #[32, 3, 72] }, 4, _, _, some (10, false)⟩) rfl (fun K hK => ?_) ?_
              · go_simp
                go_at_call 15
                refine (HSc.out U2 _ y 1 K2.out L17).mono ?_
                rw [HB1.out]
                rintro e U3 ⟨rfl, kk⟩
                have K3 : Hid (Kp [] wx U3) := kt K2.out kk
                clear kk L17
                go_wp2_with fail
                refine hK.out _ _ (CC.out _ K3.out) (fun hHeld3 => ?_)
                clear hK K hHeld2
                try simp only [Act.put, pu1, pu2, pu3]
                refine wpAnyG_ready (rs := [25]) (by kernel_rfl) (by simp) ?_
                refine AllReadyG.cons (o := ⟨some 76, .buildSlice 72 1 #[(0, .tmp 75)], 72, _, _, some (10, false)⟩) rfl (fun K hK => ?_) AllReadyG.nil
                go_simp
                obtain ⟨U4, hU4⟩ : ∃ V, V = U3.alloc (.cells #[.string y] 9) := ⟨_, rfl⟩
                have kk : Kp [] U3 U4 := by rw [hU4]; exact (Kp.refl _ _).alloc _
                have K4 : Hid (Kp [] wx U4) := kt K3.out kk
                have L25 : U4.heap[U3.heap.size]? = some (.cells #[.string y] 9 (0, 0)) := by rw [hU4]; exact heap_new _ _
                rw [← hU4]
                clear hU4 kk
                refine hK.out _ _ (CC.out _ K4.out) (fun hHeld4 => ?_)
                clear hK K hHeld3
                try simp only [Act.put, pu1, pu2, pu3]
                refine wpAnyG_ready (rs := [26]) (by kernel_rfl) (by simp) ?_
                refine AllReadyG.cons (o := ⟨some 77, .call { callee := .value (.func 16), args := #[.tmp 70, .const (.int .i64 1), .tmp 76], argTypes := #[24, 3, 72] }, 4, _, _, some (10, false)⟩) rfl (fun K hK => ?_) AllReadyG.nil
                go_simp
                go_at_call 16
                refine (HLs.out U4 _ y 1 K4.out L25).mono ?_
                rw [HB1.out]
                rintro e U5 ⟨rfl, kk⟩
                have K5 : Hid (Kp [] wx U5) := kt K4.out kk
                clear kk L25
                go_wp2_with fail
                refine hK.out _ _ (CC.out _ K5.out) (fun hHeld5 => ?_)
                clear hK K hHeld4
                try simp only [Act.put, pu1, pu2, pu3]
                refine g_pure 27 (some 78) (.binOp .neq 4 (.tmp 69) (.tmp 77) 4) ?_
                refine g_pure 28 (some 79) (.pick (.tmp 61) (.const (.bool true)) (.tmp 78)) ?_
                refine g_pure 29 (some 80) (.move (.tmp 79)) ?_
                refine g_pure 30 (some 81) (.move (.tmp 5)) ?_
                refine g_pure 33 (some 84) (.move (.tmp 6)) ?_
                refine wpAnyG_ready (rs := [31, 34]) (by kernel_rfl) (by simp) ?_
                refine AllReadyG.cons (o := ⟨some 82, .buildSlice 72 1 #[(0, .const (.string { data := #[112] }))], 72, _, _, some (29, false)⟩) rfl (fun K hK => ?_) ?_
                · go_simp
                  obtain ⟨U6, hU6⟩ : ∃ V, V = U5.alloc (.cells #[.string ⟨#[112]⟩] 9) := ⟨_, rfl⟩
                  have kk : Kp [] U5 U6 := by rw [hU6]; exact (Kp.refl _ _).alloc _
                  have K6 : Hid (Kp [] wx U6) := kt K5.out kk
                  have L31 : U6.heap[U5.heap.size]? = some (.cells #[.string ⟨#[112]⟩] 9 (0, 0)) := by rw [hU6]; exact heap_new _ _
                  rw [← hU6]
                  clear hU6 kk
                  refine hK.out _ _ (CC.out _ K6.out) (fun hHeld6 => ?_)
                  clear hK K hHeld5
                  try simp only [Act.put, pu1, pu2, pu3]
                  refine wpAnyG_ready (rs := [32, 34]) (by kernel_rfl) (by simp) ?_
                  refine AllReadyG.cons (o := ⟨some 83, .call { callee := .value (.func 15), args := #[.tmp 81, .const (.int .i64 3), .tmp 82], argTypes := #[32, 3, 72] }, 4, _, _, some (29, false)⟩) rfl (fun K hK => ?_) ?_
                  · go_simp
                    go_at_call 15
                    refine (HSc.out U6 _ ⟨#[112]⟩ 3 K6.out L31).mono ?_
                    rw [HB3.out]
                    rintro e U7 ⟨rfl, kk⟩
                    have K7 : Hid (Kp [] wx U7) := kt K6.out kk
                    clear kk L31
                    go_wp2_with fail
                    refine hK.out _ _ (CC.out _ K7.out) (fun hHeld7 => ?_)
                    clear hK K hHeld6
                    try simp only [Act.put, pu1, pu2, pu3]
                    refine wpAnyG_ready (rs := [34]) (by kernel_rfl) (by simp) ?_
                    refine AllReadyG.cons (o := ⟨some 85, .buildSlice 72 1 #[(0, .const (.string { data := #[112] }))], 72, _, _, some (29, false)⟩) rfl (fun K hK => ?_) AllReadyG.nil
                    go_simp
                    obtain ⟨U8, hU8⟩ : ∃ V, V = U7.alloc (.cells #[.string ⟨#[112]⟩] 9) := ⟨_, rfl⟩
                    have kk : Kp [] U7 U8 := by rw [hU8]; exact (Kp.refl _ _).alloc _
                    have K8 : Hid (Kp [] wx U8) := kt K7.out kk
                    have L34 : U8.heap[U7.heap.size]? = some (.cells #[.string ⟨#[112]⟩] 9 (0, 0)) := by rw [hU8]; exact heap_new _ _
                    rw [← hU8]
                    clear hU8 kk
                    refine hK.out _ _ (CC.out _ K8.out) (fun hHeld8 => ?_)
                    clear hK K hHeld7
                    try simp only [Act.put, pu1, pu2, pu3]
                    refine wpAnyG_ready (rs := [35]) (by kernel_rfl) (by simp) ?_
                    refine AllReadyG.cons (o := ⟨some 86, .call { callee := .value (.func 16), args := #[.tmp 84, .const (.int .i64 3), .tmp 85], argTypes := #[24, 3, 72] }, 4, _, _, some (29, false)⟩) rfl (fun K hK => ?_) AllReadyG.nil
                    go_simp
                    go_at_call 16
                    refine (HLs.out U8 _ ⟨#[112]⟩ 3 K8.out L34).mono ?_
                    rw [HB3.out]
                    rintro e U9 ⟨rfl, kk⟩
                    have K9 : Hid (Kp [] wx U9) := kt K8.out kk
                    clear kk L34
                    go_wp2_with fail
                    refine hK.out _ _ (CC.out _ K9.out) (fun hHeld9 => ?_)
                    clear hK K hHeld8
                    try simp only [Act.put, pu1, pu2, pu3]
                    refine g_pure 36 (some 87) (.binOp .neq 4 (.tmp 83) (.tmp 86) 4) ?_
                    refine g_pure 37 (some 88) (.pick (.tmp 80) (.const (.bool true)) (.tmp 87)) ?_
                    refine wpAnyG_free (by kernel_rfl) ?_
                    refine wpAny_done (by kernel_rfl) ?_ _
                    have KZ : Hid (Kp [] wb U9) := kt KQ.out K9.out
                    clear CC HPl HSc HLs HB1 HB3 HC f2 K0 K1 K2 K3 K4 K5 K6 K7 K8 K9
                    go_wp2
                    go_roundw
                    case rel => exact ⟨j + 1, by omega, by go_num, KZ.out⟩
                    case measure => simp [intOf]; omega
                  refine AllReadyG.cons (o := ⟨some 85, .buildSlice 72 1 #[(0, .const (.string { data := #[112] }))], 72, _, _, some (29, false)⟩) rfl (fun K hK => ?_) AllReadyG.nil
                  go_simp
                  obtain ⟨U7, hU7⟩ : ∃ V, V = U6.alloc (.cells #[.string ⟨#[112]⟩] 9) := ⟨_, rfl⟩
                  have kk : Kp [] U6 U7 := by rw [hU7]; exact (Kp.refl _ _).alloc _
                  have K7 : Hid (Kp [] wx U7) := kt K6.out kk
                  have L31 := (kk.block _ (lt_of L31) (by simp)).trans L31
                  have L34 : U7.heap[U6.heap.size]? = some (.cells #[.string ⟨#[112]⟩] 9 (0, 0)) := by rw [hU7]; exact heap_new _ _
                  rw [← hU7]
                  clear hU7 kk
                  refine hK.out _ _ (CC.out _ K7.out) (fun hHeld7 => ?_)
                  clear hK K hHeld6
                  try simp only [Act.put, pu1, pu2, pu3]
                  refine wpAnyG_ready (rs := [32]) (by kernel_rfl) (by simp) ?_
                  refine AllReadyG.cons (o := ⟨some 83, .call { callee := .value (.func 15), args := #[.tmp 81, .const (.int .i64 3), .tmp 82], argTypes := #[32, 3, 72] }, 4, _, _, some (29, false)⟩) rfl (fun K hK => ?_) AllReadyG.nil
                  go_simp
                  go_at_call 15
                  refine (HSc.out U7 _ ⟨#[112]⟩ 3 K7.out L31).mono ?_
                  rw [HB3.out]
                  rintro e U8 ⟨rfl, kk⟩
                  have K8 : Hid (Kp [] wx U8) := kt K7.out kk
                  have L34 := (kk.block _ (lt_of L34) (by simp)).trans L34
                  clear kk L31
                  go_wp2_with fail
                  refine hK.out _ _ (CC.out _ K8.out) (fun hHeld8 => ?_)
                  clear hK K hHeld7
                  try simp only [Act.put, pu1, pu2, pu3]
                  refine wpAnyG_ready (rs := [35]) (by kernel_rfl) (by simp) ?_
                  refine AllReadyG.cons (o := ⟨some 86, .call { callee := .value (.func 16), args := #[.tmp 84, .const (.int .i64 3), .tmp 85], argTypes := #[24, 3, 72] }, 4, _, _, some (29, false)⟩) rfl (fun K hK => ?_) AllReadyG.nil
                  go_simp
                  go_at_call 16
                  refine (HLs.out U8 _ ⟨#[112]⟩ 3 K8.out L34).mono ?_
                  rw [HB3.out]
                  rintro e U9 ⟨rfl, kk⟩
                  have K9 : Hid (Kp [] wx U9) := kt K8.out kk
                  clear kk L34
                  go_wp2_with fail
                  refine hK.out _ _ (CC.out _ K9.out) (fun hHeld9 => ?_)
                  clear hK K hHeld8
                  try simp only [Act.put, pu1, pu2, pu3]
                  refine g_pure 36 (some 87) (.binOp .neq 4 (.tmp 83) (.tmp 86) 4) ?_
                  refine g_pure 37 (some 88) (.pick (.tmp 80) (.const (.bool true)) (.tmp 87)) ?_
                  refine wpAnyG_free (by kernel_rfl) ?_
                  refine wpAny_done (by kernel_rfl) ?_ _
                  have KZ : Hid (Kp [] wb U9) := kt KQ.out K9.out
                  clear CC HPl HSc HLs HB1 HB3 HC f2 K0 K1 K2 K3 K4 K5 K6 K7 K8 K9
                  go_wp2
                  go_roundw
                  case rel => exact ⟨j + 1, by omega, by go_num, KZ.out⟩
                  case measure => simp [intOf]; omega
                refine AllReadyG.cons (o := ⟨some 85, .buildSlice 72 1 #[(0, .const (.string { data := #[112] }))], 72, _, _, some (29, false)⟩) rfl (fun K hK => ?_) AllReadyG.nil
                go_simp
                obtain ⟨U6, hU6⟩ : ∃ V, V = U5.alloc (.cells #[.string ⟨#[112]⟩] 9) := ⟨_, rfl⟩
                have kk : Kp [] U5 U6 := by rw [hU6]; exact (Kp.refl _ _).alloc _
                have K6 : Hid (Kp [] wx U6) := kt K5.out kk
                have L34 : U6.heap[U5.heap.size]? = some (.cells #[.string ⟨#[112]⟩] 9 (0, 0)) := by rw [hU6]; exact heap_new _ _
                rw [← hU6]
                clear hU6 kk
                refine hK.out _ _ (CC.out _ K6.out) (fun hHeld6 => ?_)
                clear hK K hHeld5
                try simp only [Act.put, pu1, pu2, pu3]
                refine wpAnyG_ready (rs := [31]) (by kernel_rfl) (by simp) ?_
                refine AllReadyG.cons (o := ⟨some 82, .buildSlice 72 1 #[(0, .const (.string { data := #[112] }))], 72, _, _, some (29, false)⟩) rfl (fun K hK => ?_) AllReadyG.nil
                go_simp
                obtain ⟨U7, hU7⟩ : ∃ V, V = U6.alloc (.cells #[.string ⟨#[112]⟩] 9) := ⟨_, rfl⟩
                have kk : Kp [] U6 U7 := by rw [hU7]; exact (Kp.refl _ _).alloc _
                have K7 : Hid (Kp [] wx U7) := kt K6.out kk
                have L34 := (kk.block _ (lt_of L34) (by simp)).trans L34
                have L31 : U7.heap[U6.heap.size]? = some (.cells #[.string ⟨#[112]⟩] 9 (0, 0)) := by rw [hU7]; exact heap_new _ _
                rw [← hU7]
                clear hU7 kk
                refine hK.out _ _ (CC.out _ K7.out) (fun hHeld7 => ?_)
                clear hK K hHeld6
                try simp only [Act.put, pu1, pu2, pu3]
                refine wpAnyG_ready (rs := [32]) (by kernel_rfl) (by simp) ?_
                refine AllReadyG.cons (o := ⟨some 83, .call { callee := .value (.func 15), args := #[.tmp 81, .const (.int .i64 3), .tmp 82], argTypes := #[32, 3, 72] }, 4, _, _, some (29, false)⟩) rfl (fun K hK => ?_) AllReadyG.nil
                go_simp
                go_at_call 15
                refine (HSc.out U7 _ ⟨#[112]⟩ 3 K7.out L31).mono ?_
                rw [HB3.out]
                rintro e U8 ⟨rfl, kk⟩
                have K8 : Hid (Kp [] wx U8) := kt K7.out kk
                have L34 := (kk.block _ (lt_of L34) (by simp)).trans L34
                clear kk L31
                go_wp2_with fail
                refine hK.out _ _ (CC.out _ K8.out) (fun hHeld8 => ?_)
                clear hK K hHeld7
                try simp only [Act.put, pu1, pu2, pu3]
                refine wpAnyG_ready (rs := [35]) (by kernel_rfl) (by simp) ?_
                refine AllReadyG.cons (o := ⟨some 86, .call { callee := .value (.func 16), args := #[.tmp 84, .const (.int .i64 3), .tmp 85], argTypes := #[24, 3, 72] }, 4, _, _, some (29, false)⟩) rfl (fun K hK => ?_) AllReadyG.nil
                go_simp
                go_at_call 16
                refine (HLs.out U8 _ ⟨#[112]⟩ 3 K8.out L34).mono ?_
                rw [HB3.out]
                rintro e U9 ⟨rfl, kk⟩
                have K9 : Hid (Kp [] wx U9) := kt K8.out kk
                clear kk L34
                go_wp2_with fail
                refine hK.out _ _ (CC.out _ K9.out) (fun hHeld9 => ?_)
                clear hK K hHeld8
                try simp only [Act.put, pu1, pu2, pu3]
                refine g_pure 36 (some 87) (.binOp .neq 4 (.tmp 83) (.tmp 86) 4) ?_
                refine g_pure 37 (some 88) (.pick (.tmp 80) (.const (.bool true)) (.tmp 87)) ?_
                refine wpAnyG_free (by kernel_rfl) ?_
                refine wpAny_done (by kernel_rfl) ?_ _
                have KZ : Hid (Kp [] wb U9) := kt KQ.out K9.out
                clear CC HPl HSc HLs HB1 HB3 HC f2 K0 K1 K2 K3 K4 K5 K6 K7 K8 K9
                go_wp2
                go_roundw
                case rel => exact ⟨j + 1, by omega, by go_num, KZ.out⟩
                case measure => simp [intOf]; omega
              refine AllReadyG.cons (o := ⟨some 76, .buildSlice 72 1 #[(0, .tmp 75)], 72, _, _, some (10, false)⟩) rfl (fun K hK => ?_) AllReadyG.nil
              go_simp
              obtain ⟨U3, hU3⟩ : ∃ V, V = U2.alloc (.cells #[.string y] 9) := ⟨_, rfl⟩
              have kk : Kp [] U2 U3 := by rw [hU3]; exact (Kp.refl _ _).alloc _
              have K3 : Hid (Kp [] wx U3) := kt K2.out kk
              have L17 := (kk.block _ (lt_of L17) (by simp)).trans L17
              have L25 : U3.heap[U2.heap.size]? = some (.cells #[.string y] 9 (0, 0)) := by rw [hU3]; exact heap_new _ _
              rw [← hU3]
              clear hU3 kk
              refine hK.out _ _ (CC.out _ K3.out) (fun hHeld3 => ?_)
              clear hK K hHeld2
              try simp only [Act.put, pu1, pu2, pu3]
              refine wpAnyG_ready (rs := [18]) (by kernel_rfl) (by simp) ?_
              refine AllReadyG.cons (o := ⟨some 69, .call { callee := .value (.func 15), args := #[.tmp 62, .const (.int .i64 1), .tmp 68], argTypes := #[32, 3, 72] }, 4, _, _, some (10, false)⟩) rfl (fun K hK => ?_) AllReadyG.nil
              go_simp
              go_at_call 15
              refine (HSc.out U3 _ y 1 K3.out L17).mono ?_
              rw [HB1.out]
              rintro e U4 ⟨rfl, kk⟩
              have K4 : Hid (Kp [] wx U4) := kt K3.out kk
              have L25 := (kk.block _ (lt_of L25) (by simp)).trans L25
              clear kk L17
              go_wp2_with fail
              refine hK.out _ _ (CC.out _ K4.out) (fun hHeld4 => ?_)
              clear hK K hHeld3
              try simp only [Act.put, pu1, pu2, pu3]
              refine wpAnyG_ready (rs := [26]) (by kernel_rfl) (by simp) ?_
              refine AllReadyG.cons (o := ⟨some 77, .call { callee := .value (.func 16), args := #[.tmp 70, .const (.int .i64 1), .tmp 76], argTypes := #[24, 3, 72] }, 4, _, _, some (10, false)⟩) rfl (fun K hK => ?_) AllReadyG.nil
              go_simp
              go_at_call 16
              refine (HLs.out U4 _ y 1 K4.out L25).mono ?_
              rw [HB1.out]
              rintro e U5 ⟨rfl, kk⟩
              have K5 : Hid (Kp [] wx U5) := kt K4.out kk
              clear kk L25
              go_wp2_with fail
              refine hK.out _ _ (CC.out _ K5.out) (fun hHeld5 => ?_)
              clear hK K hHeld4
              try simp only [Act.put, pu1, pu2, pu3]
              refine g_pure 27 (some 78) (.binOp .neq 4 (.tmp 69) (.tmp 77) 4) ?_
              refine g_pure 28 (some 79) (.pick (.tmp 61) (.const (.bool true)) (.tmp 78)) ?_
              refine g_pure 29 (some 80) (.move (.tmp 79)) ?_
              refine g_pure 30 (some 81) (.move (.tmp 5)) ?_
              refine g_pure 33 (some 84) (.move (.tmp 6)) ?_
              refine wpAnyG_ready (rs := [31, 34]) (by kernel_rfl) (by simp) ?_
              refine AllReadyG.cons (o := ⟨some 82, .buildSlice 72 1 #[(0, .const (.string { data := #[112] }))], 72, _, _, some (29, false)⟩) rfl (fun K hK => ?_) ?_
              · go_simp
                obtain ⟨U6, hU6⟩ : ∃ V, V = U5.alloc (.cells #[.string ⟨#[112]⟩] 9) := ⟨_, rfl⟩
                have kk : Kp [] U5 U6 := by rw [hU6]; exact (Kp.refl _ _).alloc _
                have K6 : Hid (Kp [] wx U6) := kt K5.out kk
                have L31 : U6.heap[U5.heap.size]? = some (.cells #[.string ⟨#[112]⟩] 9 (0, 0)) := by rw [hU6]; exact heap_new _ _
                rw [← hU6]
                clear hU6 kk
                refine hK.out _ _ (CC.out _ K6.out) (fun hHeld6 => ?_)
                clear hK K hHeld5
                try simp only [Act.put, pu1, pu2, pu3]
                refine wpAnyG_ready (rs := [32, 34]) (by kernel_rfl) (by simp) ?_
                refine AllReadyG.cons (o := ⟨some 83, .call { callee := .value (.func 15), args := #[.tmp 81, .const (.int .i64 3), .tmp 82], argTypes := #[32, 3, 72] }, 4, _, _, some (29, false)⟩) rfl (fun K hK => ?_) ?_
                · go_simp
                  go_at_call 15
                  refine (HSc.out U6 _ ⟨#[112]⟩ 3 K6.out L31).mono ?_
                  rw [HB3.out]
                  rintro e U7 ⟨rfl, kk⟩
                  have K7 : Hid (Kp [] wx U7) := kt K6.out kk
                  clear kk L31
                  go_wp2_with fail
                  refine hK.out _ _ (CC.out _ K7.out) (fun hHeld7 => ?_)
                  clear hK K hHeld6
                  try simp only [Act.put, pu1, pu2, pu3]
                  refine wpAnyG_ready (rs := [34]) (by kernel_rfl) (by simp) ?_
                  refine AllReadyG.cons (o := ⟨some 85, .buildSlice 72 1 #[(0, .const (.string { data := #[112] }))], 72, _, _, some (29, false)⟩) rfl (fun K hK => ?_) AllReadyG.nil
                  go_simp
                  obtain ⟨U8, hU8⟩ : ∃ V, V = U7.alloc (.cells #[.string ⟨#[112]⟩] 9) := ⟨_, rfl⟩
                  have kk : Kp [] U7 U8 := by rw [hU8]; exact (Kp.refl _ _).alloc _
                  have K8 : Hid (Kp [] wx U8) := kt K7.out kk
                  have L34 : U8.heap[U7.heap.size]? = some (.cells #[.string ⟨#[112]⟩] 9 (0, 0)) := by rw [hU8]; exact heap_new _ _
                  rw [← hU8]
                  clear hU8 kk
                  refine hK.out _ _ (CC.out _ K8.out) (fun hHeld8 => ?_)
                  clear hK K hHeld7
                  try simp only [Act.put, pu1, pu2, pu3]
                  refine wpAnyG_ready (rs := [35]) (by kernel_rfl) (by simp) ?_
                  refine AllReadyG.cons (o := ⟨some 86, .call { callee := .value (.func 16), args := #[.tmp 84, .const (.int .i64 3), .tmp 85], argTypes := #[24, 3, 72] }, 4, _, _, some (29, false)⟩) rfl (fun K hK => ?_) AllReadyG.nil
                  go_simp
                  go_at_call 16
                  refine (HLs.out U8 _ ⟨#[112]⟩ 3 K8.out L34).mono ?_
                  rw [HB3.out]
                  rintro e U9 ⟨rfl, kk⟩
                  have K9 : Hid (Kp [] wx U9) := kt K8.out kk
                  clear kk L34
                  go_wp2_with fail
                  refine hK.out _ _ (CC.out _ K9.out) (fun hHeld9 => ?_)
                  clear hK K hHeld8
                  try simp only [Act.put, pu1, pu2, pu3]
                  refine g_pure 36 (some 87) (.binOp .neq 4 (.tmp 83) (.tmp 86) 4) ?_
                  refine g_pure 37 (some 88) (.pick (.tmp 80) (.const (.bool true)) (.tmp 87)) ?_
                  refine wpAnyG_free (by kernel_rfl) ?_
                  refine wpAny_done (by kernel_rfl) ?_ _
                  have KZ : Hid (Kp [] wb U9) := kt KQ.out K9.out
                  clear CC HPl HSc HLs HB1 HB3 HC f2 K0 K1 K2 K3 K4 K5 K6 K7 K8 K9
                  go_wp2
                  go_roundw
                  case rel => exact ⟨j + 1, by omega, by go_num, KZ.out⟩
                  case measure => simp [intOf]; omega
                refine AllReadyG.cons (o := ⟨some 85, .buildSlice 72 1 #[(0, .const (.string { data := #[112] }))], 72, _, _, some (29, false)⟩) rfl (fun K hK => ?_) AllReadyG.nil
                go_simp
                obtain ⟨U7, hU7⟩ : ∃ V, V = U6.alloc (.cells #[.string ⟨#[112]⟩] 9) := ⟨_, rfl⟩
                have kk : Kp [] U6 U7 := by rw [hU7]; exact (Kp.refl _ _).alloc _
                have K7 : Hid (Kp [] wx U7) := kt K6.out kk
                have L31 := (kk.block _ (lt_of L31) (by simp)).trans L31
                have L34 : U7.heap[U6.heap.size]? = some (.cells #[.string ⟨#[112]⟩] 9 (0, 0)) := by rw [hU7]; exact heap_new _ _
                rw [← hU7]
                clear hU7 kk
                refine hK.out _ _ (CC.out _ K7.out) (fun hHeld7 => ?_)
                clear hK K hHeld6
                try simp only [Act.put, pu1, pu2, pu3]
                refine wpAnyG_ready (rs := [32]) (by kernel_rfl) (by simp) ?_
                refine AllReadyG.cons (o := ⟨some 83, .call { callee := .value (.func 15), args := #[.tmp 81, .const (.int .i64 3), .tmp 82], argTypes := #[32, 3, 72] }, 4, _, _, some (29, false)⟩) rfl (fun K hK => ?_) AllReadyG.nil
                go_simp
                go_at_call 15
                refine (HSc.out U7 _ ⟨#[112]⟩ 3 K7.out L31).mono ?_
                rw [HB3.out]
                rintro e U8 ⟨rfl, kk⟩
                have K8 : Hid (Kp [] wx U8) := kt K7.out kk
                have L34 := (kk.block _ (lt_of L34) (by simp)).trans L34
                clear kk L31
                go_wp2_with fail
                refine hK.out _ _ (CC.out _ K8.out) (fun hHeld8 => ?_)
                clear hK K hHeld7
                try simp only [Act.put, pu1, pu2, pu3]
                refine wpAnyG_ready (rs := [35]) (by kernel_rfl) (by simp) ?_
                refine AllReadyG.cons (o := ⟨some 86, .call { callee := .value (.func 16), args := #[.tmp 84, .const (.int .i64 3), .tmp 85], argTypes := #[24, 3, 72] }, 4, _, _, some (29, false)⟩) rfl (fun K hK => ?_) AllReadyG.nil
                go_simp
                go_at_call 16
                refine (HLs.out U8 _ ⟨#[112]⟩ 3 K8.out L34).mono ?_
                rw [HB3.out]
                rintro e U9 ⟨rfl, kk⟩
                have K9 : Hid (Kp [] wx U9) := kt K8.out kk
                clear kk L34
                go_wp2_with fail
                refine hK.out _ _ (CC.out _ K9.out) (fun hHeld9 => ?_)
                clear hK K hHeld8
                try simp only [Act.put, pu1, pu2, pu3]
                refine g_pure 36 (some 87) (.binOp .neq 4 (.tmp 83) (.tmp 86) 4) ?_
                refine g_pure 37 (some 88) (.pick (.tmp 80) (.const (.bool true)) (.tmp 87)) ?_
                refine wpAnyG_free (by kernel_rfl) ?_
                refine wpAny_done (by kernel_rfl) ?_ _
                have KZ : Hid (Kp [] wb U9) := kt KQ.out K9.out
                clear CC HPl HSc HLs HB1 HB3 HC f2 K0 K1 K2 K3 K4 K5 K6 K7 K8 K9
                go_wp2
                go_roundw
                case rel => exact ⟨j + 1, by omega, by go_num, KZ.out⟩
                case measure => simp [intOf]; omega
              refine AllReadyG.cons (o := ⟨some 85, .buildSlice 72 1 #[(0, .const (.string { data := #[112] }))], 72, _, _, some (29, false)⟩) rfl (fun K hK => ?_) AllReadyG.nil
              go_simp
              obtain ⟨U6, hU6⟩ : ∃ V, V = U5.alloc (.cells #[.string ⟨#[112]⟩] 9) := ⟨_, rfl⟩
              have kk : Kp [] U5 U6 := by rw [hU6]; exact (Kp.refl _ _).alloc _
              have K6 : Hid (Kp [] wx U6) := kt K5.out kk
              have L34 : U6.heap[U5.heap.size]? = some (.cells #[.string ⟨#[112]⟩] 9 (0, 0)) := by rw [hU6]; exact heap_new _ _
              rw [← hU6]
              clear hU6 kk
              refine hK.out _ _ (CC.out _ K6.out) (fun hHeld6 => ?_)
              clear hK K hHeld5
              try simp only [Act.put, pu1, pu2, pu3]
              refine wpAnyG_ready (rs := [31]) (by kernel_rfl) (by simp) ?_
              refine AllReadyG.cons (o := ⟨some 82, .buildSlice 72 1 #[(0, .const (.string { data := #[112] }))], 72, _, _, some (29, false)⟩) rfl (fun K hK => ?_) AllReadyG.nil
              go_simp
              obtain ⟨U7, hU7⟩ : ∃ V, V = U6.alloc (.cells #[.string ⟨#[112]⟩] 9) := ⟨_, rfl⟩
              have kk : Kp [] U6 U7 := by rw [hU7]; exact (Kp.refl _ _).alloc _
              have K7 : Hid (Kp [] wx U7) := kt K6.out kk
              have L34 := (kk.block _ (lt_of L34) (by simp)).trans L34
              have L31 : U7.heap[U6.heap.size]? = some (.cells #[.string ⟨#[112]⟩] 9 (0, 0)) := by rw [hU7]; exact heap_new _ _
              rw [← hU7]
              clear hU7 kk
              refine hK.out _ _ (CC.out _ K7.out) (fun hHeld7 => ?_)
              clear hK K hHeld6
              try simp only [Act.put, pu1, pu2, pu3]
              refine wpAnyG_ready (rs := [32]) (by kernel_rfl) (by simp) ?_
              refine AllReadyG.cons (o := ⟨some 83, .call { callee := .value (.func 15), args := #[.tmp 81, .const (.int .i64 3), .tmp 82], argTypes := #[32, 3, 72] }, 4, _, _, some (29, false)⟩) rfl (fun K hK => ?_) AllReadyG.nil
              go_simp
              go_at_call 15
              refine (HSc.out U7 _ ⟨#[112]⟩ 3 K7.out L31).mono ?_
              rw [HB3.out]
              rintro e U8 ⟨rfl, kk⟩
              have K8 : Hid (Kp [] wx U8) := kt K7.out kk
              have L34 := (kk.block _ (lt_of L34) (by simp)).trans L34
              clear kk L31
              go_wp2_with fail
              refine hK.out _ _ (CC.out _ K8.out) (fun hHeld8 => ?_)
              clear hK K hHeld7
              try simp only [Act.put, pu1, pu2, pu3]
              refine wpAnyG_ready (rs := [35]) (by kernel_rfl) (by simp) ?_
              refine AllReadyG.cons (o := ⟨some 86, .call { callee := .value (.func 16), args := #[.tmp 84, .const (.int .i64 3), .tmp 85], argTypes := #[24, 3, 72] }, 4, _, _, some (29, false)⟩) rfl (fun K hK => ?_) AllReadyG.nil
              go_simp
              go_at_call 16
              refine (HLs.out U8 _ ⟨#[112]⟩ 3 K8.out L34).mono ?_
              rw [HB3.out]
              rintro e U9 ⟨rfl, kk⟩
              have K9 : Hid (Kp [] wx U9) := kt K8.out kk
              clear kk L34
              go_wp2_with fail
              refine hK.out _ _ (CC.out _ K9.out) (fun hHeld9 => ?_)
              clear hK K hHeld8
              try simp only [Act.put, pu1, pu2, pu3]
              refine g_pure 36 (some 87) (.binOp .neq 4 (.tmp 83) (.tmp 86) 4) ?_
              refine g_pure 37 (some 88) (.pick (.tmp 80) (.const (.bool true)) (.tmp 87)) ?_
              refine wpAnyG_free (by kernel_rfl) ?_
              refine wpAny_done (by kernel_rfl) ?_ _
              have KZ : Hid (Kp [] wb U9) := kt KQ.out K9.out
              clear CC HPl HSc HLs HB1 HB3 HC f2 K0 K1 K2 K3 K4 K5 K6 K7 K8 K9
              go_wp2
              go_roundw
              case rel => exact ⟨j + 1, by omega, by go_num, KZ.out⟩
              case measure => simp [intOf]; omega
            refine AllReadyG.cons (o := ⟨some 76, .buildSlice 72 1 #[(0, .tmp 75)], 72, _, _, some (10, false)⟩) rfl (fun K hK => ?_) AllReadyG.nil
            go_simp
            obtain ⟨U2, hU2⟩ : ∃ V, V = U1.alloc (.cells #[.string y] 9) := ⟨_, rfl⟩
            have kk : Kp [] U1 U2 := by rw [hU2]; exact (Kp.refl _ _).alloc _
            have K2 : Hid (Kp [] wx U2) := kt K1.out kk
            have L25 : U2.heap[U1.heap.size]? = some (.cells #[.string y] 9 (0, 0)) := by rw [hU2]; exact heap_new _ _
            rw [← hU2]
            clear hU2 kk
            refine hK.out _ _ (CC.out _ K2.out) (fun hHeld2 => ?_)
            clear hK K hHeld1
            try simp only [Act.put, pu1, pu2, pu3]
            refine wpAnyG_ready (rs := [17]) (by kernel_rfl) (by simp) ?_
            refine AllReadyG.cons (o := ⟨some 68, .buildSlice 72 1 #[(0, .tmp 67)], 72, _, _, some (10, false)⟩) rfl (fun K hK => ?_) AllReadyG.nil
            go_simp
            obtain ⟨U3, hU3⟩ : ∃ V, V = U2.alloc (.cells #[.string y] 9) := ⟨_, rfl⟩
            have kk : Kp [] U2 U3 := by rw [hU3]; exact (Kp.refl _ _).alloc _
            have K3 : Hid (Kp [] wx U3) := kt K2.out kk
            have L25 := (kk.block _ (lt_of L25) (by simp)).trans L25
            have L17 : U3.heap[U2.heap.size]? = some (.cells #[.string y] 9 (0, 0)) := by rw [hU3]; exact heap_new _ _
            rw [← hU3]
            clear hU3 kk
            refine hK.out _ _ (CC.out _ K3.out) (fun hHeld3 => ?_)
            clear hK K hHeld2
            try simp only [Act.put, pu1, pu2, pu3]
            refine wpAnyG_ready (rs := [18]) (by kernel_rfl) (by simp) ?_
            refine AllReadyG.cons (o := ⟨some 69, .call { callee := .value (.func 15), args := #[.tmp 62, .const (.int .i64 1), .tmp 68], argTypes := #[32, 3, 72] }, 4, _, _, some (10, false)⟩) rfl (fun K hK => ?_) AllReadyG.nil
            go_simp
            go_at_call 15
            refine (HSc.out U3 _ y 1 K3.out L17).mono ?_
            rw [HB1.out]
            rintro e U4 ⟨rfl, kk⟩
            have K4 : Hid (Kp [] wx U4) := kt K3.out kk
            have L25 := (kk.block _ (lt_of L25) (by simp)).trans L25
            clear kk L17
            go_wp2_with fail
            refine hK.out _ _ (CC.out _ K4.out) (fun hHeld4 => ?_)
            clear hK K hHeld3
            try simp only [Act.put, pu1, pu2, pu3]
            refine wpAnyG_ready (rs := [26]) (by kernel_rfl) (by simp) ?_
            refine AllReadyG.cons (o := ⟨some 77, .call { callee := .value (.func 16), args := #[.tmp 70, .const (.int .i64 1), .tmp 76], argTypes := #[24, 3, 72] }, 4, _, _, some (10, false)⟩) rfl (fun K hK => ?_) AllReadyG.nil
            go_simp
            go_at_call 16
            refine (HLs.out U4 _ y 1 K4.out L25).mono ?_
            rw [HB1.out]
            rintro e U5 ⟨rfl, kk⟩
            have K5 : Hid (Kp [] wx U5) := kt K4.out kk
            clear kk L25
            go_wp2_with fail
            refine hK.out _ _ (CC.out _ K5.out) (fun hHeld5 => ?_)
            clear hK K hHeld4
            try simp only [Act.put, pu1, pu2, pu3]
            refine g_pure 27 (some 78) (.binOp .neq 4 (.tmp 69) (.tmp 77) 4) ?_
            refine g_pure 28 (some 79) (.pick (.tmp 61) (.const (.bool true)) (.tmp 78)) ?_
            refine g_pure 29 (some 80) (.move (.tmp 79)) ?_
            refine g_pure 30 (some 81) (.move (.tmp 5)) ?_
            refine g_pure 33 (some 84) (.move (.tmp 6)) ?_
            refine wpAnyG_ready (rs := [31, 34]) (by kernel_rfl) (by simp) ?_
            refine AllReadyG.cons (o := ⟨some 82, .buildSlice 72 1 #[(0, .const (.string { data := #[112] }))], 72, _, _, some (29, false)⟩) rfl (fun K hK => ?_) ?_
            · go_simp
              obtain ⟨U6, hU6⟩ : ∃ V, V = U5.alloc (.cells #[.string ⟨#[112]⟩] 9) := ⟨_, rfl⟩
              have kk : Kp [] U5 U6 := by rw [hU6]; exact (Kp.refl _ _).alloc _
              have K6 : Hid (Kp [] wx U6) := kt K5.out kk
              have L31 : U6.heap[U5.heap.size]? = some (.cells #[.string ⟨#[112]⟩] 9 (0, 0)) := by rw [hU6]; exact heap_new _ _
              rw [← hU6]
              clear hU6 kk
              refine hK.out _ _ (CC.out _ K6.out) (fun hHeld6 => ?_)
              clear hK K hHeld5
              try simp only [Act.put, pu1, pu2, pu3]
              refine wpAnyG_ready (rs := [32, 34]) (by kernel_rfl) (by simp) ?_
              refine AllReadyG.cons (o := ⟨some 83, .call { callee := .value (.func 15), args := #[.tmp 81, .const (.int .i64 3), .tmp 82], argTypes := #[32, 3, 72] }, 4, _, _, some (29, false)⟩) rfl (fun K hK => ?_) ?_
              · go_simp
                go_at_call 15
                refine (HSc.out U6 _ ⟨#[112]⟩ 3 K6.out L31).mono ?_
                rw [HB3.out]
                rintro e U7 ⟨rfl, kk⟩
                have K7 : Hid (Kp [] wx U7) := kt K6.out kk
                clear kk L31
                go_wp2_with fail
                refine hK.out _ _ (CC.out _ K7.out) (fun hHeld7 => ?_)
                clear hK K hHeld6
                try simp only [Act.put, pu1, pu2, pu3]
                refine wpAnyG_ready (rs := [34]) (by kernel_rfl) (by simp) ?_
                refine AllReadyG.cons (o := ⟨some 85, .buildSlice 72 1 #[(0, .const (.string { data := #[112] }))], 72, _, _, some (29, false)⟩) rfl (fun K hK => ?_) AllReadyG.nil
                go_simp
                obtain ⟨U8, hU8⟩ : ∃ V, V = U7.alloc (.cells #[.string ⟨#[112]⟩] 9) := ⟨_, rfl⟩
                have kk : Kp [] U7 U8 := by rw [hU8]; exact (Kp.refl _ _).alloc _
                have K8 : Hid (Kp [] wx U8) := kt K7.out kk
                have L34 : U8.heap[U7.heap.size]? = some (.cells #[.string ⟨#[112]⟩] 9 (0, 0)) := by rw [hU8]; exact heap_new _ _
                rw [← hU8]
                clear hU8 kk
                refine hK.out _ _ (CC.out _ K8.out) (fun hHeld8 => ?_)
                clear hK K hHeld7
                try simp only [Act.put, pu1, pu2, pu3]
                refine wpAnyG_ready (rs := [35]) (by kernel_rfl) (by simp) ?_
                refine AllReadyG.cons (o := ⟨some 86, .call { callee := .value (.func 16), args := #[.tmp 84, .const (.int .i64 3), .tmp 85], argTypes := #[24, 3, 72] }, 4, _, _, some (29, false)⟩) rfl (fun K hK => ?_) AllReadyG.nil
                go_simp
                go_at_call 16
                refine (HLs.out U8 _ ⟨#[112]⟩ 3 K8.out L34).mono ?_
                rw [HB3.out]
                rintro e U9 ⟨rfl, kk⟩
                have K9 : Hid (Kp [] wx U9) := kt K8.out kk
                clear kk L34
                go_wp2_with fail
                refine hK.out _ _ (CC.out _ K9.out) (fun hHeld9 => ?_)
                clear hK K hHeld8
                try simp only [Act.put, pu1, pu2, pu3]
                refine g_pure 36 (some 87) (.binOp .neq 4 (.tmp 83) (.tmp 86) 4) ?_
                refine g_pure 37 (some 88) (.pick (.tmp 80) (.const (.bool true)) (.tmp 87)) ?_
                refine wpAnyG_free (by kernel_rfl) ?_
                refine wpAny_done (by kernel_rfl) ?_ _
                have KZ : Hid (Kp [] wb U9) := kt KQ.out K9.out
                clear CC HPl HSc HLs HB1 HB3 HC f2 K0 K1 K2 K3 K4 K5 K6 K7 K8 K9
                go_wp2
                go_roundw
                case rel => exact ⟨j + 1, by omega, by go_num, KZ.out⟩
                case measure => simp [intOf]; omega
              refine AllReadyG.cons (o := ⟨some 85, .buildSlice 72 1 #[(0, .const (.string { data := #[112] }))], 72, _, _, some (29, false)⟩) rfl (fun K hK => ?_) AllReadyG.nil
              go_simp
              obtain ⟨U7, hU7⟩ : ∃ V, V = U6.alloc (.cells #[.string ⟨#[112]⟩] 9) := ⟨_, rfl⟩
              have kk : Kp [] U6 U7 := by rw [hU7]; exact (Kp.refl _ _).alloc _
              have K7 : Hid (Kp [] wx U7) := kt K6.out kk
              have L31 := (kk.block _ (lt_of L31) (by simp)).trans L31
              have L34 : U7.heap[U6.heap.size]? = some (.cells #[.string ⟨#[112]⟩] 9 (0, 0)) := by rw [hU7]; exact heap_new _ _
              rw [← hU7]
              clear hU7 kk
              refine hK.out _ _ (CC.out _ K7.out) (fun hHeld7 => ?_)
              clear hK K hHeld6
              try simp only [Act.put, pu1, pu2, pu3]
              refine wpAnyG_ready (rs := [32]) (by kernel_rfl) (by simp) ?_
              refine AllReadyG.cons (o := ⟨some 83, .call { callee := .value (.func 15), args := #[.tmp 81, .const (.int .i64 3), .tmp 82], argTypes := #[32, 3, 72] }, 4, _, _, some (29, false)⟩) rfl (fun K hK => ?_) AllReadyG.nil
              go_simp
              go_at_call 15
              refine (HSc.out U7 _ ⟨#[112]⟩ 3 K7.out L31).mono ?_
              rw [HB3.out]
              rintro e U8 ⟨rfl, kk⟩
              have K8 : Hid (Kp [] wx U8) := kt K7.out kk
              have L34 := (kk.block _ (lt_of L34) (by simp)).trans L34
              clear kk L31
              go_wp2_with fail
              refine hK.out _ _ (CC.out _ K8.out) (fun hHeld8 => ?_)
              clear hK K hHeld7
              try simp only [Act.put, pu1, pu2, pu3]
              refine wpAnyG_ready (rs := [35]) (by kernel_rfl) (by simp) ?_
              refine AllReadyG.cons (o := ⟨some 86, .call { callee := .value (.func 16), args := #[.tmp 84, .const (.int .i64 3), .tmp 85], argTypes := #[24, 3, 72] }, 4, _, _, some (29, false)⟩) rfl (fun K hK => ?_) AllReadyG.nil
              go_simp
              go_at_call 16
              refine (HLs.out U8 _ ⟨#[112]⟩ 3 K8.out L34).mono ?_
              rw [HB3.out]
              rintro e U9 ⟨rfl, kk⟩
              have K9 : Hid (Kp [] wx U9) := kt K8.out kk
              clear kk L34
              go_wp2_with fail
              refine hK.out _ _ (CC.out _ K9.out) (fun hHeld9 => ?_)
              clear hK K hHeld8
              try simp only [Act.put, pu1, pu2, pu3]
              refine g_pure 36 (some 87) (.binOp .neq 4 (.tmp 83) (.tmp 86) 4) ?_
              refine g_pure 37 (some 88) (.pick (.tmp 80) (.const (.bool true)) (.tmp 87)) ?_
              refine wpAnyG_free (by kernel_rfl) ?_
              refine wpAny_done (by kernel_rfl) ?_ _
              have KZ : Hid (Kp [] wb U9) := kt KQ.out K9.out
              clear CC HPl HSc HLs HB1 HB3 HC f2 K0 K1 K2 K3 K4 K5 K6 K7 K8 K9
              go_wp2
              go_roundw
              case rel => exact ⟨j + 1, by omega, by go_num, KZ.out⟩
              case measure => simp [intOf]; omega
            refine AllReadyG.cons (o := ⟨some 85, .buildSlice 72 1 #[(0, .const (.string { data := #[112] }))], 72, _, _, some (29, false)⟩) rfl (fun K hK => ?_) AllReadyG.nil
            go_simp
            obtain ⟨U6, hU6⟩ : ∃ V, V = U5.alloc (.cells #[.string ⟨#[112]⟩] 9) := ⟨_, rfl⟩
            have kk : Kp [] U5 U6 := by rw [hU6]; exact (Kp.refl _ _).alloc _
            have K6 : Hid (Kp [] wx U6) := kt K5.out kk
            have L34 : U6.heap[U5.heap.size]? = some (.cells #[.string ⟨#[112]⟩] 9 (0, 0)) := by rw [hU6]; exact heap_new _ _
            rw [← hU6]
            clear hU6 kk
            refine hK.out _ _ (CC.out _ K6.out) (fun hHeld6 => ?_)
            clear hK K hHeld5
            try simp only [Act.put, pu1, pu2, pu3]
            refine wpAnyG_ready (rs := [31]) (by kernel_rfl) (by simp) ?_
            refine AllReadyG.cons (o := ⟨some 82, .buildSlice 72 1 #[(0, .const (.string { data := #[112] }))], 72, _, _, some (29, false)⟩) rfl (fun K hK => ?_) AllReadyG.nil
            go_simp
            obtain ⟨U7, hU7⟩ : ∃ V, V = U6.alloc (.cells #[.string ⟨#[112]⟩] 9) := ⟨_, rfl⟩
            have kk : Kp [] U6 U7 := by rw [hU7]; exact (Kp.refl _ _).alloc _
            have K7 : Hid (Kp [] wx U7) := kt K6.out kk
            have L34 := (kk.block _ (lt_of L34) (by simp)).trans L34
            have L31 : U7.heap[U6.heap.size]? = some (.cells #[.string ⟨#[112]⟩] 9 (0, 0)) := by rw [hU7]; exact heap_new _ _
            rw [← hU7]
            clear hU7 kk
            refine hK.out _ _ (CC.out _ K7.out) (fun hHeld7 => ?_)
            clear hK K hHeld6
            try simp only [Act.put, pu1, pu2, pu3]
            refine wpAnyG_ready (rs := [32]) (by kernel_rfl) (by simp) ?_
            refine AllReadyG.cons (o := ⟨some 83, .call { callee := .value (.func 15), args := #[.tmp 81, .const (.int .i64 3), .tmp 82], argTypes := #[32, 3, 72] }, 4, _, _, some (29, false)⟩) rfl (fun K hK => ?_) AllReadyG.nil
            go_simp
            go_at_call 15
            refine (HSc.out U7 _ ⟨#[112]⟩ 3 K7.out L31).mono ?_
            rw [HB3.out]
            rintro e U8 ⟨rfl, kk⟩
            have K8 : Hid (Kp [] wx U8) := kt K7.out kk
            have L34 := (kk.block _ (lt_of L34) (by simp)).trans L34
            clear kk L31
            go_wp2_with fail
            refine hK.out _ _ (CC.out _ K8.out) (fun hHeld8 => ?_)
            clear hK K hHeld7
            try simp only [Act.put, pu1, pu2, pu3]
            refine wpAnyG_ready (rs := [35]) (by kernel_rfl) (by simp) ?_
            refine AllReadyG.cons (o := ⟨some 86, .call { callee := .value (.func 16), args := #[.tmp 84, .const (.int .i64 3), .tmp 85], argTypes := #[24, 3, 72] }, 4, _, _, some (29, false)⟩) rfl (fun K hK => ?_) AllReadyG.nil
            go_simp
            go_at_call 16
            refine (HLs.out U8 _ ⟨#[112]⟩ 3 K8.out L34).mono ?_
            rw [HB3.out]
            rintro e U9 ⟨rfl, kk⟩
            have K9 : Hid (Kp [] wx U9) := kt K8.out kk
            clear kk L34
            go_wp2_with fail
            refine hK.out _ _ (CC.out _ K9.out) (fun hHeld9 => ?_)
            clear hK K hHeld8
            try simp only [Act.put, pu1, pu2, pu3]
            refine g_pure 36 (some 87) (.binOp .neq 4 (.tmp 83) (.tmp 86) 4) ?_
            refine g_pure 37 (some 88) (.pick (.tmp 80) (.const (.bool true)) (.tmp 87)) ?_
            refine wpAnyG_free (by kernel_rfl) ?_
            refine wpAny_done (by kernel_rfl) ?_ _
            have KZ : Hid (Kp [] wb U9) := kt KQ.out K9.out
            clear CC HPl HSc HLs HB1 HB3 HC f2 K0 K1 K2 K3 K4 K5 K6 K7 K8 K9
            go_wp2
            go_roundw
            case rel => exact ⟨j + 1, by omega, by go_num, KZ.out⟩
            case measure => simp [intOf]; omega
          · obtain rfl : j = zs.length := by omega
            have HP0 := Strs.place_list w wx q (tg hh zs) (hh ++ ⟨#[110, 111, 110, 101]⟩) l4 (by rw [tg_len]; omega)
            rw [tg_none hh zs (by omega)] at HP0
            have HLn : Hid (∀ W, Kp [] wx W → Calls Try.prog 17 #[.pointer (some ⟨q, 0, none⟩)] W fun e w' => e = .returned (.int .i64 zs.length) ∧ w' = W) := fun W kW => by
              have := Strs.len_list w W q (tg hh zs) (l4.kept kW)
              rw [tg_len] at this
              exact this
            have HK : Hid (Kp [] w wx) := kt HX.out.2.1 KQ.out
            have hcc : ¬ 9223372036854775807 < hh.size + 4 := by omega
            clear l4 r4 kq
            go_wp2_with fail
            refine HP0.mono ?_
            rintro e w4 ⟨rfl, k4⟩
            have HL4 := HLn.out w4 k4
            have K4 : Hid (Kp [] w w4) := kt HK.out k4
            clear HP0 HLn k4 HK
            go_wp2_with (first | (go_at_call 17; refine (HL4).mono ?_; rintro e w9 ⟨rfl, hw⟩; have hw2 := hw.symm; clear hw; subst hw2) | (go_at_call 10; refine (known_any _).mono ?_; rintro e w9 ⟨rfl, k9⟩))
            go_ret
            exact ⟨rfl, kt K4.out k9⟩

end Go.Proofs.Ytpadnfpifldoaaa.Ints
