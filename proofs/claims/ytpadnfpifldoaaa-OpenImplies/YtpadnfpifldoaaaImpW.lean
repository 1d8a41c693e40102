/-
  OpenImplies.
-/
import Derived.Test.YtpadnfpifldoaaaApp
import Derived.Test.YtpadnfpifldoaaaStp
namespace Go.Proofs.Ytpadnfpifldoaaa.Ints
open Go.RowKit
set_option linter.unusedSimpArgs false

theorem pre_get {γ : Type} {ys zs : List γ} (h : ys <+: zs) (j : Nat) (h1 : j < ys.length) : ∃ h2 : j < zs.length, ys[j] = zs[j] := by
  obtain ⟨r, rfl⟩ := h
  exact ⟨by simp; omega, by rw [List.getElem_append_left h1]⟩

theorem goI_thor (X : ByteArray) (x : It) (h : goI X x = true) : thorough x.2.2 = true := by
  unfold goI at h
  unfold thorough
  simp only [Bool.and_eq_true] at h
  rw [h.2]
  simp

theorem goT_thor (x : It) (h : goT x = true) : thorough x.2.2 = true := by
  unfold goT at h
  simp only [Bool.and_eq_true] at h
  exact h.2

set_option maxRecDepth 100000 in
set_option maxHeartbeats 4000000 in
theorem implies_walk (w : World) (ao : Option Addr) (n c : Nat) (F : Nat → Ask) (m : Int) (how : Int) (hA : As w ao n c F) :
    Calls Try.prog 7 #[.slice ao n c, .int .i64 m, .int .i64 how] w fun e w' => e = .returned (.bool true) ∧ Kp [] w w' := by
  have H1 := new_list w w (Nat.le_refl _)
  have hnc := hA.1
  obtain ⟨X, hX⟩ : ∃ X, nm m = X := ⟨_, rfl⟩
  have HN : Hid (∀ W, Calls Try.prog 18 #[.int .i64 m] W fun e w' => e = .returned (.string X) ∧ Kp [] W w') := fun W => by rw [← hX]; exact names_any W m
  clear hX
  go_enter Try.func7, Try.ntmps7
  go_wp2_with fail
  refine H1.mono ?_
  rintro e w1 ⟨q, rfl, hL, k1⟩
  clear H1
  have HK1 : Hid (Kp [] w w1) := k1
  have HM1 : Hid (Ms w w1 none 0 0 []) := (Ms.nil w).kept k1
  clear k1
  go_wp2
  go_loopw [8, 9] (fun l i wr => ∃ k : Nat, ∃ zs : List It, ∃ bo d, k ≤ 30 ∧ k ≤ n ∧ zs.length = k ∧ l = .slice bo k d ∧ i = .int .i64 k ∧ Li w wr q zs ∧ Kp [] w wr ∧ Ms w wr bo k d zs ∧ (k = 0 → bo = none)) (fun _ i _ => n - (intOf i).toNat)
  case atStart => exact ⟨0, [], none, 0, by omega, Nat.zero_le _, rfl, rfl, rfl, hL, HK1.out, HM1.out, fun _ => rfl⟩
  case round =>
    obtain ⟨k, zs, bo, d, hk, hkn, hz, rfl, rfl, hr, kr, hm, hb⟩ := hrel
    clear hL HK1 HM1
    by_cases hlt : k < 30 ∧ k < n
    · obtain ⟨g1, g2⟩ := hlt
      obtain ⟨b, off, rfl, c0, c1, c2, c3, c4⟩ := (hA.kept kr).2 k g2
      have HEl := el_any wr (F k)
      generalize F k = a at c0 c1 c2 c3 c4 HEl
      obtain ⟨kd, h, n', m', svg⟩ := a
      generalize elF (kd, h, n', m', svg) = x at HEl
      obtain ⟨xh, xn, xs⟩ := x
      have HP : Hid (∀ w3, Kp [] wr w3 → Calls Try.prog 19 #[.pointer (some ⟨q, 0, none⟩), .agg #[.int .i64 (k : Int), .int .i64 xn, .string xs, .slice none 0 0]] w3 fun e w' => e = .returned (.tuple #[]) ∧ Li w w' q (zs ++ [((k : Int), xn, xs)]) ∧ Ev w w3 w') := fun w3 k3 =>
        push_list w w3 q zs ((k : Int), xn, xs) (hr.kept k3) (by omega)
      unfold av at HEl
      unfold iv at HEl
      simp only at c0 c1 c2 c3 c4 HEl
      have HM : Hid (Kp [] w wr ∧ Ms w wr bo k d zs ∧ (k = 0 → bo = none) ∧ zs.length = k) := ⟨kr, hm, hb, hz⟩
      clear hr kr hm hb hz
      go_wp2_with fail
      refine HEl.mono ?_
      rintro e w3 ⟨rfl, k3⟩
      have K3 : Hid (Kp [] wr w3) := k3
      clear HEl k3 c0 c1 c2 c3 c4
      go_wp2_with fail
      have H5 := HP.out _ (K3.out.alloc (.cells #[.int .i64 (k : Int), .int .i64 xn, .string xs, .slice none 0 0] 36))
      refine H5.mono ?_
      rintro e w5 ⟨rfl, l5, e5⟩
      obtain ⟨kr, hm, hb, hz⟩ := HM.out
      have hbx := (bx_new w3 ((k : Int), xn, xs)).ev e5
      obtain ⟨g9, hg9, d0, d1, d2, d3⟩ := hbx.out
      simp only [Option.some.injEq, Addr.mk.injEq, and_true] at hg9
      subst hg9
      have k6 : Kp [] w5 (w5.alloc (.cells #[.int .i64 (k : Int), .int .i64 xn, .string xs, .slice none 0 0] 36)) := (Kp.refl _ _).alloc _
      have hm5 := (((hm.kept K3.out).kept ((Kp.refl _ _).alloc (.cells #[.int .i64 (k : Int), .int .i64 xn, .string xs, .slice none 0 0] 36))).ev e5).kept k6
      have hsr : Src Try.prog 4 24 (.slice (some ⟨w5.heap.size, 0, none⟩) 1 1) 1 (cz [((k : Int), xn, xs)]) (w5.alloc (.cells #[.int .i64 (k : Int), .int .i64 xn, .string xs, .slice none 0 0] 36)) := (Ms.lit w5 ((k : Int), xn, xs)).rs.src
      obtain ⟨ao', c', w7, hrun, M7, ⟨a7, rfl⟩, hL7⟩ := hm5.more hsr (by omega) hb
      have HR7 : Hid (Li w w7 q (zs ++ [((k : Int), xn, xs)]) ∧ Kp [] w w7 ∧ Ms w w7 (some a7) (k + 1) c' (zs ++ [((k : Int), xn, xs)])) := ⟨hL7 w q _ (l5.kept k6), M7.2.1, M7⟩
      have HZ : Hid (zs.length = k) := hz
      clear l5 e5 kr hm hb hz hbx k6 hm5 hsr M7 hL7 H5 HP HM K3
      go_wp2_with (at_builtin; refine Lib.wpList_append_run _ rfl _ _ _ _ rfl _ _ rfl rfl _ _ (hrun _) ?_)
      go_roundw
      case rel => exact ⟨k + 1, _, some a7, c', by omega, by omega, by rw [List.length_append, HZ.out]; rfl, by go_num, by go_num, HR7.out.1, HR7.out.2.1, HR7.out.2.2, fun h => by omega⟩
      case measure => simp [intOf]; omega
    · obtain rfl : zs.length = k := hz
      have HX : Hid (Li w wr q zs ∧ Kp [] w wr ∧ Rs wr bo zs.length d zs) := ⟨hr, kr, hm.rs⟩
      have hzl : zs.length < 1000 := by omega
      have hkb : zs.length ≤ d := hm.rs.cap
      have hfin : ¬ zs.length < n ∨ (zs.length < n ∧ ¬ zs.length < 30) := by omega
      clear hr kr hm hb hlt hA
      have HWI := fun W => within_any W how 2 (by omega)
      have hw2 := wi_le how 2
      generalize wi how 2 = K2 at HWI hw2
      rcases hfin with g1 | ⟨g0, g1⟩
      all_goals
        go_wp2_with fail
        refine (HN.out wr).mono ?_
        rintro e w2 ⟨rfl, k2⟩
        have HX2 : Hid (Li w w2 q zs ∧ Kp [] w w2 ∧ Rs w2 bo zs.length d zs) := ⟨HX.out.1.kept k2, kt HX.out.2.1 k2, HX.out.2.2.kept k2⟩
        clear k2 HX
        go_wp2_with fail
        refine (HWI w2).mono ?_
        rintro e w9 ⟨rfl, hw⟩
        have hw3 := hw.symm
        clear hw
        subst hw3
        rcases (show K2 = 0 ∨ K2 = 1 ∨ K2 = 2 by omega) with rfl | rfl | rfl
        · have H3 := imply_list w w2 q zs X HX2.out.1 (by omega)
          have HX3 : Hid (∀ w3, Ev w w2 w3 → Ev w w2 w3) := fun w3 e => e
          go_wp2_with fail
          refine H3.mono ?_
          rintro e w3 ⟨rfl, l3, e3⟩
          have e4 := HX3.out w3 e3
          have HK3 : Hid (Kp [] w w3) := e4.kp HX2.out.2.1
          have hrs := HX2.out.2.2.ev e4
          have HPre : Hid (popW (goI X) zs <+: zs) := popW_prefix _ _
          have HLast : Hid (∀ x, (popW (goI X) zs).getLast? = some x → (goI X) x = false) := popW_last _ _
          have HNone : Hid (popW (goI X) zs = [] → ∀ x, x ∈ zs → (goI X) x = true) := popW_none _ _
          obtain ⟨ys, hys⟩ : ∃ ys, popW (goI X) zs = ys := ⟨_, rfl⟩
          rw [hys] at l3 HPre HLast HNone
          have hyl : ys.length ≤ zs.length := HPre.out.length_le
          clear H3 HX3 e3 e4 HX2 hys
          have HL3 := len_list w w3 q ys l3
          have hgt : ¬ zs.length < ys.length := by omega
          go_wp2_with (first | (go_at_call 27; refine (HL3).mono ?_; rintro e w9 ⟨rfl, hw⟩; have hw2 := hw.symm; clear hw; subst hw2))
          clear HL3 hgt
          go_loopw [13] (fun i wq => ∃ j : Nat, j ≤ ys.length ∧ i = .int .i64 j ∧ Kp [] w3 wq) (fun i _ => ys.length - (intOf i).toNat)
          case atStart => exact ⟨0, Nat.zero_le _, rfl, Kp.refl _ _⟩
          case round =>
            obtain ⟨j, hj, rfl, kq⟩ := hrel
            obtain ⟨wx, hwx⟩ : ∃ x, x = wr := ⟨_, rfl⟩
            subst hwx
            have l4 := l3.kept kq
            have r4 := hrs.kept kq
            have HL4 := len_list w _ q ys l4
            by_cases hjl : j < ys.length
            · obtain ⟨hj2, hyz⟩ := pre_get HPre.out j hjl
              have HAt := at_list w _ q ys j l4 hjl
              rw [hyz] at HAt
              have KQ : Hid (Kp [] w3 _) := kq
              have HG : Hid (∀ W, Kp [] wx W → ∃ b off, bo = some ⟨b, off, none⟩ ∧ W.cell? ⟨b, off + j * 4, none⟩ = some (.int .i64 zs[j].1) ∧ W.cell? ⟨b, off + j * 4 + 1, none⟩ = some (.int .i64 zs[j].2.1) ∧ W.cell? ⟨b, off + j * 4 + 2, none⟩ = some (.string zs[j].2.2) ∧ W.cell? ⟨b, off + j * 4 + 3, none⟩ = some (.slice none 0 0)) := fun W kW => (r4.kept kW).get j hj2
              generalize zs[j] = x at HAt HG
              have HSm : Hid (∀ W, Calls Try.prog 29 #[iv x, iv x] W fun e w' => e = .returned (.bool true) ∧ Kp [] W w') := fun W => same_any W x
              obtain ⟨h, ns, nm⟩ := x
              unfold iv at HAt HSm
              simp only at HG
              clear l4 r4 hyz kq
              go_wp2_with (first | (go_at_call 27; refine (HL4).mono ?_; rintro e w9 ⟨rfl, hw⟩; have hw2 := hw.symm; clear hw; subst hw2))
              refine HAt.mono ?_
              rintro e w4 ⟨rfl, k4⟩
              obtain ⟨w5, hw5⟩ : ∃ w5, w5 = w4.alloc (.cells #[.int .i64 h, .int .i64 ns, .string nm, .slice none 0 0] 36) := ⟨_, rfl⟩
              have k5 : Kp [] wx w5 := by rw [hw5]; exact k4.alloc _
              have hbx : Bx w5 (some ⟨w4.heap.size, 0, none⟩) (h, ns, nm) := by rw [hw5]; exact bx_new w4 (h, ns, nm)
              obtain ⟨b2, o2, hbo, _⟩ := HG.out _ (Kp.refl _ _)
              have hbo2 : Hid (bo = some ⟨b2, o2, none⟩) := hbo
              have CC : Hid (∀ W, Kp [] w5 W → (fun V => V.cell? ⟨w4.heap.size, 0, none⟩ = some (.int .i64 h) ∧ V.cell? ⟨w4.heap.size, 1, none⟩ = some (.int .i64 ns) ∧ V.cell? ⟨w4.heap.size, 2, none⟩ = some (.string nm) ∧ V.cell? ⟨w4.heap.size, 3, none⟩ = some (.slice none 0 0) ∧ V.cell? ⟨b2, o2 + j * 4, none⟩ = some (.int .i64 h) ∧ V.cell? ⟨b2, o2 + j * 4 + 1, none⟩ = some (.int .i64 ns) ∧ V.cell? ⟨b2, o2 + j * 4 + 2, none⟩ = some (.string nm) ∧ V.cell? ⟨b2, o2 + j * 4 + 3, none⟩ = some (.slice none 0 0)) W) := fun W kW => by
                obtain ⟨g, hg, e0, e1, e2, e3⟩ := (hbx.kept kW).out
                simp only [Option.some.injEq, Addr.mk.injEq, and_true] at hg
                subst hg
                obtain ⟨b', o', hb', f0, f1, f2, f3⟩ := HG.out W (kt k5 kW)
                rw [hbo2.out] at hb'
                simp only [Option.some.injEq, Addr.mk.injEq, and_true] at hb'
                obtain ⟨rfl, rfl⟩ := hb'
                exact ⟨e0, e1, e2, e3, f0, f1, f2, f3⟩
              have K5 : Hid (Kp [] w3 w5) := kt KQ.out k5
              have hkj : j < zs.length := hj2
              clear HAt k4 k5 hbx HG KQ HL4
              subst hbo
              go_wp2_with fail
              rw [← hw5]
              clear hw5
              refine wp_region_g (S := fun V => V.cell? ⟨w4.heap.size, 0, none⟩ = some (.int .i64 h) ∧ V.cell? ⟨w4.heap.size, 1, none⟩ = some (.int .i64 ns) ∧ V.cell? ⟨w4.heap.size, 2, none⟩ = some (.string nm) ∧ V.cell? ⟨w4.heap.size, 3, none⟩ = some (.slice none 0 0) ∧ V.cell? ⟨b2, o2 + j * 4, none⟩ = some (.int .i64 h) ∧ V.cell? ⟨b2, o2 + j * 4 + 1, none⟩ = some (.int .i64 ns) ∧ V.cell? ⟨b2, o2 + j * 4 + 2, none⟩ = some (.string nm) ∧ V.cell? ⟨b2, o2 + j * 4 + 3, none⟩ = some (.slice none 0 0)) (T := []) (by kernel_rfl) (CC.out _ (Kp.refl [] w5).drew) (fun hHeld => ?_)
              refine g_pure 0 (some 80) (.move (.tmp 15)) ?_
              refine g_pure 1 (some 81) (.unOp .not 4 (.tmp 80)) ?_
              refine g_pure 2 (some 82) (.move (.tmp 81)) ?_
              refine g_take 3 (some 83) (.load 36 (.tmp 14)) (by intro w hSw; (obtain ⟨q0, q1, q2, q3, q4, q5, q6, q7⟩ := hSw); go_simp; try with_reducible rfl) ?_
              refine g_pure 4 (some 84) (.move (.tmp 8)) ?_
              refine g_pure 5 (some 85) (.move (.tmp 13)) ?_
              refine g_pure 6 (some 86) (.indexAddr 24 (.tmp 84) (.tmp 85)) ?_
              refine g_take 7 (some 87) (.load 36 (.tmp 86)) (by intro w hSw; (obtain ⟨q0, q1, q2, q3, q4, q5, q6, q7⟩ := hSw); go_simp; try with_reducible rfl) ?_
              refine wpAnyG_ready (rs := [8]) (by kernel_rfl) (by simp) ?_
              refine AllReadyG.cons (o := ⟨some 88, .call { callee := .value (.func 29), args := #[.tmp 83, .tmp 87], argTypes := #[36, 36] }, 4, _, _, some (2, false)⟩) rfl (fun K hK => ?_) AllReadyG.nil
              go_simp
              go_at_call 29
              refine (HSm.out _).mono ?_
              rintro e w7 ⟨rfl, k7⟩
              go_wp2_with fail
              refine hK.out _ _ (CC.out _ ((Kp.refl [] w5).drew.trans k7 (fun y hy => by simp at hy))) (fun hHeld1 => ?_)
              clear hK K hHeld
              try simp only [Act.put, pu1, pu2, pu3]
              refine g_pure 9 (some 89) (.unOp .not 4 (.tmp 88)) ?_
              refine g_pure 10 (some 90) (.pick (.tmp 82) (.const (.bool true)) (.tmp 89)) ?_
              refine wpAnyG_free (by kernel_rfl) ?_
              refine wpAny_done (by kernel_rfl) ?_ _
              skip
              have R7 : Hid (Kp [] w3 w7) := kt K5.out ((Kp.refl [] w5).drew.trans k7 (fun y hy => by simp at hy))
              clear CC HSm K5 k7
              go_wp2
              go_roundw
              case rel => exact ⟨j + 1, by omega, by go_num, R7.out⟩
              case measure => simp [intOf]; omega
            · obtain rfl : j = ys.length := by omega
              have HK4 : Hid (Kp [] w wx) := kt HK3.out kq
              have HRS : Hid (Rs wx bo zs.length d zs) := r4
              clear hrs r4 HL4 l3 HK3
              have HLn : Hid (∀ W, Kp [] wx W → Calls Try.prog 27 #[.pointer (some ⟨q, 0, none⟩)] W fun e w' => e = .returned (.int .i64 ys.length) ∧ w' = W) := fun W kW => len_list w W q ys (l4.kept kW)
              have HL4 := len_list w _ q ys l4
              go_wp2_with (first | (go_at_call 27; refine (HL4).mono ?_; rintro e w9 ⟨rfl, hw⟩; have hw2 := hw.symm; clear hw; subst hw2))
              clear HL4
              rcases snoc_or ys with rfl | ⟨r, x, rfl⟩
              · have HTp := top_none w _ q [] l4 rfl
                have hnone := HNone.out rfl
                have HLn2 : Hid (∀ W, Kp [] wx W → Calls Try.prog 27 #[.pointer (some ⟨q, 0, none⟩)] W fun e w' => e = .returned (.int .i64 0) ∧ w' = W) := HLn
                clear HLn l4
                refine HTp.mono ?_
                rintro e w4 ⟨rfl, k4⟩
                have k5 : Kp [] wx (w4.alloc (.cells #[.int .i64 0, .int .i64 0, .string ⟨#[]⟩, .slice none 0 0] 36)) := k4.alloc _
                have HL5 := HLn2.out _ k5
                have K5 : Hid (Kp [] wx (w4.alloc (.cells #[.int .i64 0, .int .i64 0, .string ⟨#[]⟩, .slice none 0 0] 36))) := k5
                unfold iv z0
                clear HTp HLn2 k4 k5
                rcases Nat.eq_zero_or_pos zs.length with h0 | h0
                · have h1 : ((zs.length : Int) == 0) = true := by rw [h0]; rfl
                  clear HRS hnone h0
                  go_wp2_with (first | (go_at_call 27; refine (HL5).mono ?_; rintro e w9 ⟨rfl, hw⟩; have hw2 := hw.symm; clear hw; subst hw2) | (go_at_call 10; refine (known_any _).mono ?_; rintro e w9 ⟨rfl, k9⟩))
                  go_ret
                  exact ⟨rfl, kt (kt HK4.out K5.out) k9⟩
                · have h1 : ((zs.length : Int) == 0) = false := by simp; intro e; rw [e] at h0; simp at h0
                  obtain ⟨b2, o2, rfl, c0, c1, c2, c3⟩ := (HRS.out.kept K5.out).get 0 h0
                  have ht : thorough zs[0].2.2 = true := goI_thor X _ (hnone _ (List.getElem_mem h0))
                  have HTh := ref_thorough_any (w4.alloc (.cells #[.int .i64 0, .int .i64 0, .string ⟨#[]⟩, .slice none 0 0] 36)) zs[0].2.2
                  rw [ht] at HTh
                  generalize zs[0] = x at c0 c1 c2 c3 HTh
                  rw [Nat.zero_mul, Nat.add_zero] at c0 c1 c2 c3
                  clear HRS hnone ht
                  go_wp2_with (first | (go_at_call 27; refine (HL5).mono ?_; rintro e w9 ⟨rfl, hw⟩; have hw2 := hw.symm; clear hw; subst hw2) | (go_at_call 31; refine HTh.mono ?_; rintro e w8 ⟨rfl, k8⟩) | (go_at_call 10; refine (known_any _).mono ?_; rintro e w9 ⟨rfl, k9⟩))
                  go_ret
                  exact ⟨rfl, kt (kt (kt HK4.out K5.out) k8) k9⟩
              · have HTp := top_list w _ q (r ++ [x]) l4 (by simp) (by simp at hyl ⊢; omega)
                have hlast : (goI X) x = false := HLast.out x (by simp)
                rw [show (r ++ [x])[(r ++ [x]).length - 1]'(by simp) = x by simp] at HTp
                clear HLn l4 HRS
                obtain ⟨h, ns, nm⟩ := x
                unfold iv at HTp
                refine HTp.mono ?_
                rintro e w4 ⟨rfl, k4⟩
                clear HTp
                have k5 : Kp [] wx (w4.alloc (.cells #[.int .i64 h, .int .i64 ns, .string nm, .slice none 0 0] 36)) := k4.alloc _
                have K5 : Hid (Kp [] wx (w4.alloc (.cells #[.int .i64 h, .int .i64 ns, .string nm, .slice none 0 0] 36))) := k5
                have HB : Hid (∀ W, Kp [] (w4.alloc (.cells #[.int .i64 h, .int .i64 ns, .string nm, .slice none 0 0] 36)) W → W.cell? ⟨w4.heap.size, 0, none⟩ = some (.int .i64 h) ∧ W.cell? ⟨w4.heap.size, 1, none⟩ = some (.int .i64 ns) ∧ W.cell? ⟨w4.heap.size, 2, none⟩ = some (.string nm) ∧ W.cell? ⟨w4.heap.size, 3, none⟩ = some (.slice none 0 0)) := fun W kW => by
                  obtain ⟨g, hg, e0, e1, e2, e3⟩ := ((bx_new w4 (h, ns, nm)).kept kW).out
                  simp only [Option.some.injEq, Addr.mk.injEq, and_true] at hg
                  subst hg
                  exact ⟨e0, e1, e2, e3⟩
                clear k4 k5
                unfold goI at hlast
                simp only at hlast
                have HIm := ref_impl_any (w4.alloc (.cells #[.int .i64 h, .int .i64 ns, .string nm, .slice none 0 0] 36)) nm
                generalize has IMPL nm = I at HIm hlast
                rcases Bool.eq_false_or_eq_true (ns == 1) with h1 | h1
                · cases I
                  · clear hlast HB
                    go_wp2_with (first | (go_at_call 32; refine HIm.mono ?_; rintro e w8 ⟨rfl, k8⟩) | (go_at_call 10; refine (known_any _).mono ?_; rintro e w9 ⟨rfl, k9⟩))
                    go_ret
                    exact ⟨rfl, kt (kt (kt HK4.out K5.out) k8) k9⟩
                  · rw [h1, Bool.true_and, Bool.and_true] at hlast
                    have h2 : (nm.toList == X.toList) = true := by simpa using hlast
                    clear hlast
                    go_wp2_with (first | (go_at_call 32; refine HIm.mono ?_; rintro e w8 ⟨rfl, k8⟩; obtain ⟨q0, q1, q2, q3⟩ := HB.out w8 k8) | (go_at_call 10; refine (known_any _).mono ?_; rintro e w9 ⟨rfl, k9⟩))
                    go_ret
                    exact ⟨rfl, kt (kt (kt HK4.out K5.out) k8) k9⟩
                · clear hlast HB HIm
                  go_wp2_with (first | (go_at_call 10; refine (known_any _).mono ?_; rintro e w9 ⟨rfl, k9⟩))
                  go_ret
                  exact ⟨rfl, kt (kt HK4.out K5.out) k9⟩
        · have H3 := thor_list w w2 q zs HX2.out.1 (by omega)
          have HX3 : Hid (∀ w3, Ev w w2 w3 → Ev w w2 w3) := fun w3 e => e
          go_wp2_with fail
          refine H3.mono ?_
          rintro e w3 ⟨rfl, l3, e3⟩
          have e4 := HX3.out w3 e3
          have HK3 : Hid (Kp [] w w3) := e4.kp HX2.out.2.1
          have hrs := HX2.out.2.2.ev e4
          have HPre : Hid (popW (goT) zs <+: zs) := popW_prefix _ _
          have HLast : Hid (∀ x, (popW (goT) zs).getLast? = some x → (goT) x = false) := popW_last _ _
          have HNone : Hid (popW (goT) zs = [] → ∀ x, x ∈ zs → (goT) x = true) := popW_none _ _
          obtain ⟨ys, hys⟩ : ∃ ys, popW (goT) zs = ys := ⟨_, rfl⟩
          rw [hys] at l3 HPre HLast HNone
          have hyl : ys.length ≤ zs.length := HPre.out.length_le
          clear H3 HX3 e3 e4 HX2 hys
          have HL3 := len_list w w3 q ys l3
          have hgt : ¬ zs.length < ys.length := by omega
          go_wp2_with (first | (go_at_call 27; refine (HL3).mono ?_; rintro e w9 ⟨rfl, hw⟩; have hw2 := hw.symm; clear hw; subst hw2))
          clear HL3 hgt
          go_loopw [13] (fun i wq => ∃ j : Nat, j ≤ ys.length ∧ i = .int .i64 j ∧ Kp [] w3 wq) (fun i _ => ys.length - (intOf i).toNat)
          case atStart => exact ⟨0, Nat.zero_le _, rfl, Kp.refl _ _⟩
          case round =>
            obtain ⟨j, hj, rfl, kq⟩ := hrel
            obtain ⟨wx, hwx⟩ : ∃ x, x = wr := ⟨_, rfl⟩
            subst hwx
            have l4 := l3.kept kq
            have r4 := hrs.kept kq
            have HL4 := len_list w _ q ys l4
            by_cases hjl : j < ys.length
            · obtain ⟨hj2, hyz⟩ := pre_get HPre.out j hjl
              have HAt := at_list w _ q ys j l4 hjl
              rw [hyz] at HAt
              have KQ : Hid (Kp [] w3 _) := kq
              have HG : Hid (∀ W, Kp [] wx W → ∃ b off, bo = some ⟨b, off, none⟩ ∧ W.cell? ⟨b, off + j * 4, none⟩ = some (.int .i64 zs[j].1) ∧ W.cell? ⟨b, off + j * 4 + 1, none⟩ = some (.int .i64 zs[j].2.1) ∧ W.cell? ⟨b, off + j * 4 + 2, none⟩ = some (.string zs[j].2.2) ∧ W.cell? ⟨b, off + j * 4 + 3, none⟩ = some (.slice none 0 0)) := fun W kW => (r4.kept kW).get j hj2
              generalize zs[j] = x at HAt HG
              have HSm : Hid (∀ W, Calls Try.prog 29 #[iv x, iv x] W fun e w' => e = .returned (.bool true) ∧ Kp [] W w') := fun W => same_any W x
              obtain ⟨h, ns, nm⟩ := x
              unfold iv at HAt HSm
              simp only at HG
              clear l4 r4 hyz kq
              go_wp2_with (first | (go_at_call 27; refine (HL4).mono ?_; rintro e w9 ⟨rfl, hw⟩; have hw2 := hw.symm; clear hw; subst hw2))
              refine HAt.mono ?_
              rintro e w4 ⟨rfl, k4⟩
              obtain ⟨w5, hw5⟩ : ∃ w5, w5 = w4.alloc (.cells #[.int .i64 h, .int .i64 ns, .string nm, .slice none 0 0] 36) := ⟨_, rfl⟩
              have k5 : Kp [] wx w5 := by rw [hw5]; exact k4.alloc _
              have hbx : Bx w5 (some ⟨w4.heap.size, 0, none⟩) (h, ns, nm) := by rw [hw5]; exact bx_new w4 (h, ns, nm)
              obtain ⟨b2, o2, hbo, _⟩ := HG.out _ (Kp.refl _ _)
              have hbo2 : Hid (bo = some ⟨b2, o2, none⟩) := hbo
              have CC : Hid (∀ W, Kp [] w5 W → (fun V => V.cell? ⟨w4.heap.size, 0, none⟩ = some (.int .i64 h) ∧ V.cell? ⟨w4.heap.size, 1, none⟩ = some (.int .i64 ns) ∧ V.cell? ⟨w4.heap.size, 2, none⟩ = some (.string nm) ∧ V.cell? ⟨w4.heap.size, 3, none⟩ = some (.slice none 0 0) ∧ V.cell? ⟨b2, o2 + j * 4, none⟩ = some (.int .i64 h) ∧ V.cell? ⟨b2, o2 + j * 4 + 1, none⟩ = some (.int .i64 ns) ∧ V.cell? ⟨b2, o2 + j * 4 + 2, none⟩ = some (.string nm) ∧ V.cell? ⟨b2, o2 + j * 4 + 3, none⟩ = some (.slice none 0 0)) W) := fun W kW => by
                obtain ⟨g, hg, e0, e1, e2, e3⟩ := (hbx.kept kW).out
                simp only [Option.some.injEq, Addr.mk.injEq, and_true] at hg
                subst hg
                obtain ⟨b', o', hb', f0, f1, f2, f3⟩ := HG.out W (kt k5 kW)
                rw [hbo2.out] at hb'
                simp only [Option.some.injEq, Addr.mk.injEq, and_true] at hb'
                obtain ⟨rfl, rfl⟩ := hb'
                exact ⟨e0, e1, e2, e3, f0, f1, f2, f3⟩
              have K5 : Hid (Kp [] w3 w5) := kt KQ.out k5
              have hkj : j < zs.length := hj2
              clear HAt k4 k5 hbx HG KQ HL4
              subst hbo
              go_wp2_with fail
              rw [← hw5]
              clear hw5
              refine wp_region_g (S := fun V => V.cell? ⟨w4.heap.size, 0, none⟩ = some (.int .i64 h) ∧ V.cell? ⟨w4.heap.size, 1, none⟩ = some (.int .i64 ns) ∧ V.cell? ⟨w4.heap.size, 2, none⟩ = some (.string nm) ∧ V.cell? ⟨w4.heap.size, 3, none⟩ = some (.slice none 0 0) ∧ V.cell? ⟨b2, o2 + j * 4, none⟩ = some (.int .i64 h) ∧ V.cell? ⟨b2, o2 + j * 4 + 1, none⟩ = some (.int .i64 ns) ∧ V.cell? ⟨b2, o2 + j * 4 + 2, none⟩ = some (.string nm) ∧ V.cell? ⟨b2, o2 + j * 4 + 3, none⟩ = some (.slice none 0 0)) (T := []) (by kernel_rfl) (CC.out _ (Kp.refl [] w5).drew) (fun hHeld => ?_)
              refine g_pure 0 (some 80) (.move (.tmp 15)) ?_
              refine g_pure 1 (some 81) (.unOp .not 4 (.tmp 80)) ?_
              refine g_pure 2 (some 82) (.move (.tmp 81)) ?_
              refine g_take 3 (some 83) (.load 36 (.tmp 14)) (by intro w hSw; (obtain ⟨q0, q1, q2, q3, q4, q5, q6, q7⟩ := hSw); go_simp; try with_reducible rfl) ?_
              refine g_pure 4 (some 84) (.move (.tmp 8)) ?_
              refine g_pure 5 (some 85) (.move (.tmp 13)) ?_
              refine g_pure 6 (some 86) (.indexAddr 24 (.tmp 84) (.tmp 85)) ?_
              refine g_take 7 (some 87) (.load 36 (.tmp 86)) (by intro w hSw; (obtain ⟨q0, q1, q2, q3, q4, q5, q6, q7⟩ := hSw); go_simp; try with_reducible rfl) ?_
              refine wpAnyG_ready (rs := [8]) (by kernel_rfl) (by simp) ?_
              refine AllReadyG.cons (o := ⟨some 88, .call { callee := .value (.func 29), args := #[.tmp 83, .tmp 87], argTypes := #[36, 36] }, 4, _, _, some (2, false)⟩) rfl (fun K hK => ?_) AllReadyG.nil
              go_simp
              go_at_call 29
              refine (HSm.out _).mono ?_
              rintro e w7 ⟨rfl, k7⟩
              go_wp2_with fail
              refine hK.out _ _ (CC.out _ ((Kp.refl [] w5).drew.trans k7 (fun y hy => by simp at hy))) (fun hHeld1 => ?_)
              clear hK K hHeld
              try simp only [Act.put, pu1, pu2, pu3]
              refine g_pure 9 (some 89) (.unOp .not 4 (.tmp 88)) ?_
              refine g_pure 10 (some 90) (.pick (.tmp 82) (.const (.bool true)) (.tmp 89)) ?_
              refine wpAnyG_free (by kernel_rfl) ?_
              refine wpAny_done (by kernel_rfl) ?_ _
              skip
              have R7 : Hid (Kp [] w3 w7) := kt K5.out ((Kp.refl [] w5).drew.trans k7 (fun y hy => by simp at hy))
              clear CC HSm K5 k7
              go_wp2
              go_roundw
              case rel => exact ⟨j + 1, by omega, by go_num, R7.out⟩
              case measure => simp [intOf]; omega
            · obtain rfl : j = ys.length := by omega
              have HK4 : Hid (Kp [] w wx) := kt HK3.out kq
              have HRS : Hid (Rs wx bo zs.length d zs) := r4
              clear hrs r4 HL4 l3 HK3
              have HLn : Hid (∀ W, Kp [] wx W → Calls Try.prog 27 #[.pointer (some ⟨q, 0, none⟩)] W fun e w' => e = .returned (.int .i64 ys.length) ∧ w' = W) := fun W kW => len_list w W q ys (l4.kept kW)
              have HL4 := len_list w _ q ys l4
              go_wp2_with (first | (go_at_call 27; refine (HL4).mono ?_; rintro e w9 ⟨rfl, hw⟩; have hw2 := hw.symm; clear hw; subst hw2))
              clear HL4
              rcases snoc_or ys with rfl | ⟨r, x, rfl⟩
              · have HTp := top_none w _ q [] l4 rfl
                have hnone := HNone.out rfl
                have HLn2 : Hid (∀ W, Kp [] wx W → Calls Try.prog 27 #[.pointer (some ⟨q, 0, none⟩)] W fun e w' => e = .returned (.int .i64 0) ∧ w' = W) := HLn
                clear HLn l4
                refine HTp.mono ?_
                rintro e w4 ⟨rfl, k4⟩
                have k5 : Kp [] wx (w4.alloc (.cells #[.int .i64 0, .int .i64 0, .string ⟨#[]⟩, .slice none 0 0] 36)) := k4.alloc _
                have HL5 := HLn2.out _ k5
                have K5 : Hid (Kp [] wx (w4.alloc (.cells #[.int .i64 0, .int .i64 0, .string ⟨#[]⟩, .slice none 0 0] 36))) := k5
                unfold iv z0
                clear HTp HLn2 k4 k5
                rcases Nat.eq_zero_or_pos zs.length with h0 | h0
                · have h1 : ((zs.length : Int) == 0) = true := by rw [h0]; rfl
                  clear HRS hnone h0
                  go_wp2_with (first | (go_at_call 27; refine (HL5).mono ?_; rintro e w9 ⟨rfl, hw⟩; have hw2 := hw.symm; clear hw; subst hw2) | (go_at_call 10; refine (known_any _).mono ?_; rintro e w9 ⟨rfl, k9⟩))
                  go_ret
                  exact ⟨rfl, kt (kt HK4.out K5.out) k9⟩
                · have h1 : ((zs.length : Int) == 0) = false := by simp; intro e; rw [e] at h0; simp at h0
                  obtain ⟨b2, o2, rfl, c0, c1, c2, c3⟩ := (HRS.out.kept K5.out).get 0 h0
                  have ht : thorough zs[0].2.2 = true := goT_thor _ (hnone _ (List.getElem_mem h0))
                  have HTh := ref_thorough_any (w4.alloc (.cells #[.int .i64 0, .int .i64 0, .string ⟨#[]⟩, .slice none 0 0] 36)) zs[0].2.2
                  rw [ht] at HTh
                  generalize zs[0] = x at c0 c1 c2 c3 HTh
                  rw [Nat.zero_mul, Nat.add_zero] at c0 c1 c2 c3
                  clear HRS hnone ht
                  go_wp2_with (first | (go_at_call 27; refine (HL5).mono ?_; rintro e w9 ⟨rfl, hw⟩; have hw2 := hw.symm; clear hw; subst hw2) | (go_at_call 31; refine HTh.mono ?_; rintro e w8 ⟨rfl, k8⟩) | (go_at_call 10; refine (known_any _).mono ?_; rintro e w9 ⟨rfl, k9⟩))
                  go_ret
                  exact ⟨rfl, kt (kt (kt HK4.out K5.out) k8) k9⟩
              · have HTp := top_list w _ q (r ++ [x]) l4 (by simp) (by simp at hyl ⊢; omega)
                have hlast : (goT) x = false := HLast.out x (by simp)
                rw [show (r ++ [x])[(r ++ [x]).length - 1]'(by simp) = x by simp] at HTp
                clear HLn l4 HRS
                obtain ⟨h, ns, nm⟩ := x
                unfold iv at HTp
                refine HTp.mono ?_
                rintro e w4 ⟨rfl, k4⟩
                clear HTp
                have k5 : Kp [] wx (w4.alloc (.cells #[.int .i64 h, .int .i64 ns, .string nm, .slice none 0 0] 36)) := k4.alloc _
                have K5 : Hid (Kp [] wx (w4.alloc (.cells #[.int .i64 h, .int .i64 ns, .string nm, .slice none 0 0] 36))) := k5
                have HB : Hid (∀ W, Kp [] (w4.alloc (.cells #[.int .i64 h, .int .i64 ns, .string nm, .slice none 0 0] 36)) W → W.cell? ⟨w4.heap.size, 0, none⟩ = some (.int .i64 h) ∧ W.cell? ⟨w4.heap.size, 1, none⟩ = some (.int .i64 ns) ∧ W.cell? ⟨w4.heap.size, 2, none⟩ = some (.string nm) ∧ W.cell? ⟨w4.heap.size, 3, none⟩ = some (.slice none 0 0)) := fun W kW => by
                  obtain ⟨g, hg, e0, e1, e2, e3⟩ := ((bx_new w4 (h, ns, nm)).kept kW).out
                  simp only [Option.some.injEq, Addr.mk.injEq, and_true] at hg
                  subst hg
                  exact ⟨e0, e1, e2, e3⟩
                clear k4 k5
                unfold goT at hlast
                simp only at hlast
                have HIm := ref_thorough_any (w4.alloc (.cells #[.int .i64 h, .int .i64 ns, .string nm, .slice none 0 0] 36)) nm
                generalize thorough nm = I at HIm hlast
                rcases Bool.eq_false_or_eq_true (ns == 1) with h1 | h1
                · rw [h1, Bool.true_and] at hlast
                  subst hlast
                  clear HB
                  go_wp2_with (first | (go_at_call 31; refine HIm.mono ?_; rintro e w8 ⟨rfl, k8⟩) | (go_at_call 10; refine (known_any _).mono ?_; rintro e w9 ⟨rfl, k9⟩))
                  go_ret
                  exact ⟨rfl, kt (kt (kt HK4.out K5.out) k8) k9⟩
                · clear hlast HB HIm
                  go_wp2_with (first | (go_at_call 10; refine (known_any _).mono ?_; rintro e w9 ⟨rfl, k9⟩))
                  go_ret
                  exact ⟨rfl, kt (kt HK4.out K5.out) k9⟩
        · have H3 := clear_list w (w2.alloc (.cells #[.string X] 9)) q zs [X] w2.heap.size 1 (HX2.out.1.kept ((Kp.refl _ _).alloc _)) (heap_new _ _) rfl (by omega) (by omega)
          have HX3 : Hid (∀ w3, Ev w (w2.alloc (.cells #[.string X] 9)) w3 → Ev w w2 w3) := fun w3 e => (Ev.of_kp ((Kp.refl _ _).alloc _)).trans e
          go_wp2_with fail
          refine H3.mono ?_
          rintro e w3 ⟨rfl, l3, e3⟩
          have e4 := HX3.out w3 e3
          have HK3 : Hid (Kp [] w w3) := e4.kp HX2.out.2.1
          have hrs := HX2.out.2.2.ev e4
          have HPre : Hid (popW (goC [X]) zs <+: zs) := popW_prefix _ _
          have HLast : Hid (∀ x, (popW (goC [X]) zs).getLast? = some x → (goC [X]) x = false) := popW_last _ _
          have HNone : Hid (popW (goC [X]) zs = [] → ∀ x, x ∈ zs → (goC [X]) x = true) := popW_none _ _
          obtain ⟨ys, hys⟩ : ∃ ys, popW (goC [X]) zs = ys := ⟨_, rfl⟩
          rw [hys] at l3 HPre HLast HNone
          have hyl : ys.length ≤ zs.length := HPre.out.length_le
          clear H3 HX3 e3 e4 HX2 hys
          have HL3 := len_list w w3 q ys l3
          have hgt : ¬ zs.length < ys.length := by omega
          go_wp2_with (first | (go_at_call 27; refine (HL3).mono ?_; rintro e w9 ⟨rfl, hw⟩; have hw2 := hw.symm; clear hw; subst hw2))
          clear HL3 hgt
          go_loopw [13] (fun i wq => ∃ j : Nat, j ≤ ys.length ∧ i = .int .i64 j ∧ Kp [] w3 wq) (fun i _ => ys.length - (intOf i).toNat)
          case atStart => exact ⟨0, Nat.zero_le _, rfl, Kp.refl _ _⟩
          case round =>
            obtain ⟨j, hj, rfl, kq⟩ := hrel
            obtain ⟨wx, hwx⟩ : ∃ x, x = wr := ⟨_, rfl⟩
            subst hwx
            have l4 := l3.kept kq
            have r4 := hrs.kept kq
            have HL4 := len_list w _ q ys l4
            by_cases hjl : j < ys.length
            · obtain ⟨hj2, hyz⟩ := pre_get HPre.out j hjl
              have HAt := at_list w _ q ys j l4 hjl
              rw [hyz] at HAt
              have KQ : Hid (Kp [] w3 _) := kq
              have HG : Hid (∀ W, Kp [] wx W → ∃ b off, bo = some ⟨b, off, none⟩ ∧ W.cell? ⟨b, off + j * 4, none⟩ = some (.int .i64 zs[j].1) ∧ W.cell? ⟨b, off + j * 4 + 1, none⟩ = some (.int .i64 zs[j].2.1) ∧ W.cell? ⟨b, off + j * 4 + 2, none⟩ = some (.string zs[j].2.2) ∧ W.cell? ⟨b, off + j * 4 + 3, none⟩ = some (.slice none 0 0)) := fun W kW => (r4.kept kW).get j hj2
              generalize zs[j] = x at HAt HG
              have HSm : Hid (∀ W, Calls Try.prog 29 #[iv x, iv x] W fun e w' => e = .returned (.bool true) ∧ Kp [] W w') := fun W => same_any W x
              obtain ⟨h, ns, nm⟩ := x
              unfold iv at HAt HSm
              simp only at HG
              clear l4 r4 hyz kq
              go_wp2_with (first | (go_at_call 27; refine (HL4).mono ?_; rintro e w9 ⟨rfl, hw⟩; have hw2 := hw.symm; clear hw; subst hw2))
              refine HAt.mono ?_
              rintro e w4 ⟨rfl, k4⟩
              obtain ⟨w5, hw5⟩ : ∃ w5, w5 = w4.alloc (.cells #[.int .i64 h, .int .i64 ns, .string nm, .slice none 0 0] 36) := ⟨_, rfl⟩
              have k5 : Kp [] wx w5 := by rw [hw5]; exact k4.alloc _
              have hbx : Bx w5 (some ⟨w4.heap.size, 0, none⟩) (h, ns, nm) := by rw [hw5]; exact bx_new w4 (h, ns, nm)
              obtain ⟨b2, o2, hbo, _⟩ := HG.out _ (Kp.refl _ _)
              have hbo2 : Hid (bo = some ⟨b2, o2, none⟩) := hbo
              have CC : Hid (∀ W, Kp [] w5 W → (fun V => V.cell? ⟨w4.heap.size, 0, none⟩ = some (.int .i64 h) ∧ V.cell? ⟨w4.heap.size, 1, none⟩ = some (.int .i64 ns) ∧ V.cell? ⟨w4.heap.size, 2, none⟩ = some (.string nm) ∧ V.cell? ⟨w4.heap.size, 3, none⟩ = some (.slice none 0 0) ∧ V.cell? ⟨b2, o2 + j * 4, none⟩ = some (.int .i64 h) ∧ V.cell? ⟨b2, o2 + j * 4 + 1, none⟩ = some (.int .i64 ns) ∧ V.cell? ⟨b2, o2 + j * 4 + 2, none⟩ = some (.string nm) ∧ V.cell? ⟨b2, o2 + j * 4 + 3, none⟩ = some (.slice none 0 0)) W) := fun W kW => by
                obtain ⟨g, hg, e0, e1, e2, e3⟩ := (hbx.kept kW).out
                simp only [Option.some.injEq, Addr.mk.injEq, and_true] at hg
                subst hg
                obtain ⟨b', o', hb', f0, f1, f2, f3⟩ := HG.out W (kt k5 kW)
                rw [hbo2.out] at hb'
                simp only [Option.some.injEq, Addr.mk.injEq, and_true] at hb'
                obtain ⟨rfl, rfl⟩ := hb'
                exact ⟨e0, e1, e2, e3, f0, f1, f2, f3⟩
              have K5 : Hid (Kp [] w3 w5) := kt KQ.out k5
              have hkj : j < zs.length := hj2
              clear HAt k4 k5 hbx HG KQ HL4
              subst hbo
              go_wp2_with fail
              rw [← hw5]
              clear hw5
              refine wp_region_g (S := fun V => V.cell? ⟨w4.heap.size, 0, none⟩ = some (.int .i64 h) ∧ V.cell? ⟨w4.heap.size, 1, none⟩ = some (.int .i64 ns) ∧ V.cell? ⟨w4.heap.size, 2, none⟩ = some (.string nm) ∧ V.cell? ⟨w4.heap.size, 3, none⟩ = some (.slice none 0 0) ∧ V.cell? ⟨b2, o2 + j * 4, none⟩ = some (.int .i64 h) ∧ V.cell? ⟨b2, o2 + j * 4 + 1, none⟩ = some (.int .i64 ns) ∧ V.cell? ⟨b2, o2 + j * 4 + 2, none⟩ = some (.string nm) ∧ V.cell? ⟨b2, o2 + j * 4 + 3, none⟩ = some (.slice none 0 0)) (T := []) (by kernel_rfl) (CC.out _ (Kp.refl [] w5).drew) (fun hHeld => ?_)
              refine g_pure 0 (some 80) (.move (.tmp 15)) ?_
              refine g_pure 1 (some 81) (.unOp .not 4 (.tmp 80)) ?_
              refine g_pure 2 (some 82) (.move (.tmp 81)) ?_
              refine g_take 3 (some 83) (.load 36 (.tmp 14)) (by intro w hSw; (obtain ⟨q0, q1, q2, q3, q4, q5, q6, q7⟩ := hSw); go_simp; try with_reducible rfl) ?_
              refine g_pure 4 (some 84) (.move (.tmp 8)) ?_
              refine g_pure 5 (some 85) (.move (.tmp 13)) ?_
              refine g_pure 6 (some 86) (.indexAddr 24 (.tmp 84) (.tmp 85)) ?_
              refine g_take 7 (some 87) (.load 36 (.tmp 86)) (by intro w hSw; (obtain ⟨q0, q1, q2, q3, q4, q5, q6, q7⟩ := hSw); go_simp; try with_reducible rfl) ?_
              refine wpAnyG_ready (rs := [8]) (by kernel_rfl) (by simp) ?_
              refine AllReadyG.cons (o := ⟨some 88, .call { callee := .value (.func 29), args := #[.tmp 83, .tmp 87], argTypes := #[36, 36] }, 4, _, _, some (2, false)⟩) rfl (fun K hK => ?_) AllReadyG.nil
              go_simp
              go_at_call 29
              refine (HSm.out _).mono ?_
              rintro e w7 ⟨rfl, k7⟩
              go_wp2_with fail
              refine hK.out _ _ (CC.out _ ((Kp.refl [] w5).drew.trans k7 (fun y hy => by simp at hy))) (fun hHeld1 => ?_)
              clear hK K hHeld
              try simp only [Act.put, pu1, pu2, pu3]
              refine g_pure 9 (some 89) (.unOp .not 4 (.tmp 88)) ?_
              refine g_pure 10 (some 90) (.pick (.tmp 82) (.const (.bool true)) (.tmp 89)) ?_
              refine wpAnyG_free (by kernel_rfl) ?_
              refine wpAny_done (by kernel_rfl) ?_ _
              skip
              have R7 : Hid (Kp [] w3 w7) := kt K5.out ((Kp.refl [] w5).drew.trans k7 (fun y hy => by simp at hy))
              clear CC HSm K5 k7
              go_wp2
              go_roundw
              case rel => exact ⟨j + 1, by omega, by go_num, R7.out⟩
              case measure => simp [intOf]; omega
            · obtain rfl : j = ys.length := by omega
              have HK4 : Hid (Kp [] w wx) := kt HK3.out kq
              have HRS : Hid (Rs wx bo zs.length d zs) := r4
              clear hrs r4 HL4 l3 HK3
              have HLn : Hid (∀ W, Kp [] wx W → Calls Try.prog 27 #[.pointer (some ⟨q, 0, none⟩)] W fun e w' => e = .returned (.int .i64 ys.length) ∧ w' = W) := fun W kW => len_list w W q ys (l4.kept kW)
              have HL4 := len_list w _ q ys l4
              go_wp2_with (first | (go_at_call 27; refine (HL4).mono ?_; rintro e w9 ⟨rfl, hw⟩; have hw2 := hw.symm; clear hw; subst hw2))
              clear HL4
              rcases snoc_or ys with rfl | ⟨r, x, rfl⟩
              · have HTp := top_none w _ q [] l4 rfl
                have hnone := HNone.out rfl
                have HLn2 : Hid (∀ W, Kp [] wx W → Calls Try.prog 27 #[.pointer (some ⟨q, 0, none⟩)] W fun e w' => e = .returned (.int .i64 0) ∧ w' = W) := HLn
                clear HLn l4
                refine HTp.mono ?_
                rintro e w4 ⟨rfl, k4⟩
                have k5 : Kp [] wx (w4.alloc (.cells #[.int .i64 0, .int .i64 0, .string ⟨#[]⟩, .slice none 0 0] 36)) := k4.alloc _
                have HL5 := HLn2.out _ k5
                have K5 : Hid (Kp [] wx (w4.alloc (.cells #[.int .i64 0, .int .i64 0, .string ⟨#[]⟩, .slice none 0 0] 36))) := k5
                unfold iv z0
                clear HTp HLn2 k4 k5
                clear HRS hnone
                go_wp2_with (first | (go_at_call 27; refine (HL5).mono ?_; rintro e w9 ⟨rfl, hw⟩; have hw2 := hw.symm; clear hw; subst hw2) | (go_at_call 10; refine (known_any _).mono ?_; rintro e w9 ⟨rfl, k9⟩))
                go_ret
                exact ⟨rfl, kt (kt HK4.out K5.out) k9⟩
              · have HTp := top_list w _ q (r ++ [x]) l4 (by simp) (by simp at hyl ⊢; omega)
                have hlast : (goC [X]) x = false := HLast.out x (by simp)
                rw [show (r ++ [x])[(r ++ [x]).length - 1]'(by simp) = x by simp] at HTp
                clear HLn l4 HRS
                obtain ⟨h, ns, nm⟩ := x
                unfold iv at HTp
                refine HTp.mono ?_
                rintro e w4 ⟨rfl, k4⟩
                clear HTp
                have k5 : Kp [] wx (w4.alloc (.cells #[.int .i64 h, .int .i64 ns, .string nm, .slice none 0 0] 36)) := k4.alloc _
                have K5 : Hid (Kp [] wx (w4.alloc (.cells #[.int .i64 h, .int .i64 ns, .string nm, .slice none 0 0] 36))) := k5
                have HB : Hid (∀ W, Kp [] (w4.alloc (.cells #[.int .i64 h, .int .i64 ns, .string nm, .slice none 0 0] 36)) W → W.cell? ⟨w4.heap.size, 0, none⟩ = some (.int .i64 h) ∧ W.cell? ⟨w4.heap.size, 1, none⟩ = some (.int .i64 ns) ∧ W.cell? ⟨w4.heap.size, 2, none⟩ = some (.string nm) ∧ W.cell? ⟨w4.heap.size, 3, none⟩ = some (.slice none 0 0)) := fun W kW => by
                  obtain ⟨g, hg, e0, e1, e2, e3⟩ := ((bx_new w4 (h, ns, nm)).kept kW).out
                  simp only [Option.some.injEq, Addr.mk.injEq, and_true] at hg
                  subst hg
                  exact ⟨e0, e1, e2, e3⟩
                clear k4 k5
                have hin : isIn [X, ⟨#[104, 116, 109, 108]⟩, ⟨#[116, 101, 109, 112, 108, 97, 116, 101]⟩] (h, ns, nm) = true := by
                  unfold goC at hlast
                  unfold isIn HTM at hlast
                  unfold isIn
                  simp only [List.any_cons, List.any_nil, Bool.or_false] at hlast ⊢
                  revert hlast
                  generalize (ns == 1) = b1
                  generalize (X.toList == nm.toList) = b2
                  generalize ((⟨#[104, 116, 109, 108]⟩ : ByteArray).toList == nm.toList) = b3
                  generalize ((⟨#[116, 101, 109, 112, 108, 97, 116, 101]⟩ : ByteArray).toList == nm.toList) = b4
                  cases b1 <;> cases b2 <;> cases b3 <;> cases b4 <;> simp
                obtain ⟨w5, hw5⟩ : ∃ w5, w5 = w4.alloc (.cells #[.int .i64 h, .int .i64 ns, .string nm, .slice none 0 0] 36) := ⟨_, rfl⟩
                rw [← hw5] at K5 HB
                have HIs := lis_lit w5 w5 (h, ns, nm) [X, ⟨#[104, 116, 109, 108]⟩, ⟨#[116, 101, 109, 112, 108, 97, 116, 101]⟩] 3 #[.string X, .string ⟨#[104, 116, 109, 108]⟩, .string ⟨#[116, 101, 109, 112, 108, 97, 116, 101]⟩] (Kp.refl _ _) (by rfl) (by rfl) (by omega)
                rw [hin] at HIs
                unfold iv at HIs
                simp only at HIs
                obtain ⟨q0, q1, q2, q3⟩ := HB.out w5 (Kp.refl _ _)
                clear hlast HB hin
                go_upto_region 36 with fail
                rw [← hw5]
                clear hw5
                go_wp2_with fail
                refine HIs.mono ?_
                rintro e w8 ⟨rfl, k8⟩
                clear HIs
                go_wp2_with (first | (go_at_call 10; refine (known_any _).mono ?_; rintro e w9 ⟨rfl, k9⟩))
                go_ret
                exact ⟨rfl, kt (kt (kt HK4.out K5.out) k8) k9⟩

end Go.Proofs.Ytpadnfpifldoaaa.Ints
