/-
  OpenScopes.
-/
import Derived.Test.YtpadnfpifldoaaaAin
import Derived.Test.YtpadnfpifldoaaaOpu
namespace Go.Proofs.Ytpadnfpifldoaaa.Ints
open Go.RowKit
set_option linter.unusedSimpArgs false

/-- Scope, of one name that was just laid. -/
theorem scope_lit (w0 wb w : World) (q : Nat) (zs : List It) (k : Int) (s : ByteArray) (hL : Li w0 w q zs) (hl : zs.length < 90000) (kb : Kp [] wb w) :
    Calls Try.prog 20 #[.pointer (some ⟨q, 0, none⟩), .int .i64 k, .slice (some ⟨w.heap.size, 0, none⟩) 1 1] (w.alloc (.cells #[.string s] 9)) fun e w' => e = .returned (.bool (scp k [s] zs)) ∧ Kp [] wb w' :=
  from_back (scope_list w0 _ q zs k [s] _ 1 1 (hL.kept ((Kp.refl _ _).alloc _)) (rb_lit w 9 #[.string s] _ 1 rfl rfl (by omega)) (by omega) (by omega)) (kb.alloc _)

theorem kt {a b c : World} (h : Kp [] a b) (k : Kp [] b c) : Kp [] a c := h.trans k (fun y hy => by simp at hy)

set_option maxRecDepth 100000 in
set_option maxHeartbeats 2000000 in
theorem scopes_walk (w : World) (ao : Option Addr) (n c : Nat) (F : Nat → Ask) (m : Int) (hA : As w ao n c F) :
    Calls Try.prog 6 #[.slice ao n c, .int .i64 m] w fun e w' => e = .returned (.bool true) ∧ Kp [] w w' := by
  have H1 := new_list w w (Nat.le_refl _)
  have hnc := hA.1
  obtain ⟨X, hX⟩ : ∃ X, nm m = X := ⟨_, rfl⟩
  have HN : Hid (∀ W, Calls Try.prog 18 #[.int .i64 m] W fun e w' => e = .returned (.string X) ∧ Kp [] W w') := fun W => by rw [← hX]; exact names_any W m
  clear hX
  go_enter Try.func6, Try.ntmps6
  go_wp2_with fail
  refine H1.mono ?_
  rintro e w1 ⟨q, rfl, hL, k1⟩
  clear H1
  go_wp2_with fail
  refine (HN.out w1).mono ?_
  rintro e w2 ⟨rfl, k2⟩
  have hL2 := hL.kept k2
  have HE : Hid (Ev w w w2) := Ev.of_kp (kt k1 k2)
  clear hL k1 k2 HN
  go_wp2
  go_loopw [7] (fun i wr => ∃ k : Nat, ∃ zs : List It, k ≤ 30 ∧ k ≤ n ∧ zs.length = k ∧ i = .int .i64 k ∧ Li w wr q zs ∧ Ev w w wr) (fun i _ => n - (intOf i).toNat)
  case atStart => exact ⟨0, [], by omega, Nat.zero_le _, rfl, rfl, hL2, HE.out⟩
  case round =>
    obtain ⟨k, zs, hk, hkn, hz, rfl, hr, er⟩ := hrel
    clear hL2 HE
    have HR : Hid (Li w wr q zs ∧ Ev w w wr) := ⟨hr, er⟩
    have HZ : Hid (zs.length = k) := hz
    by_cases hlt : k < 30 ∧ k < n
    · obtain ⟨g1, g2⟩ := hlt
      have kA : Kp [] w wr := er.kp (Kp.refl _ _)
      obtain ⟨b, off, rfl, c0, c1, c2, c3, c4⟩ := (hA.kept kA).2 k g2
      have HEl := el_any wr (F k)
      generalize F k = a at c0 c1 c2 c3 c4 HEl
      have HP : Hid (∀ w3, Kp [] wr w3 → Calls Try.prog 19 #[.pointer (some ⟨q, 0, none⟩), iv (elF a)] w3 fun e w' => e = .returned (.tuple #[]) ∧ Li w w' q (zs ++ [elF a]) ∧ Ev w w w') := fun w3 k3 =>
        (push_list w w3 q zs _ (hr.kept k3) (by omega)).mono (fun e w' ⟨e1, e2, e3⟩ => ⟨e1, e2, (er.back k3).trans e3⟩)
      obtain ⟨kd, h, n', m', svg⟩ := a
      generalize elF (kd, h, n', m', svg) = x at HEl HP
      obtain ⟨xh, xn, xs⟩ := x
      unfold av at HEl
      unfold iv at HEl HP
      simp only at c0 c1 c2 c3 c4 HEl
      clear hr er hz kA HR
      go_wp2_with fail
      refine HEl.mono ?_
      rintro e w3 ⟨rfl, k3⟩
      have HP2 := HP.out w3 k3
      clear HEl HP k3 c0 c1 c2 c3 c4
      go_wp2_with fail
      refine HP2.mono ?_
      rintro e w4 ⟨rfl, r4, e4⟩
      clear HP2
      obtain ⟨ys, hys⟩ : ∃ ys, zs ++ [(xh, xn, xs)] = ys := ⟨_, rfl⟩
      have hyl : ys.length = k + 1 := by rw [← hys, List.length_append, HZ.out]; rfl
      rw [hys] at r4
      clear hys
      have HYL : Hid (ys.length = k + 1) := hyl
      have HS : Hid (∀ W j, Kp [] w4 W → Calls Try.prog 20 #[.pointer (some ⟨q, 0, none⟩), .int .i64 j, .slice (some ⟨W.heap.size, 0, none⟩) 1 1] (W.alloc (.cells #[.string X] 9)) fun e w' => e = .returned (.bool (scp j [X] ys)) ∧ Kp [] w4 w') := fun W j kW => scope_lit w w4 W q ys j X (r4.kept kW) (by omega) kW
      have HH : Hid (∀ W, Kp [] w4 W → Calls Try.prog 21 #[.pointer (some ⟨q, 0, none⟩), .string X] W fun e w' => e = .returned (.bool (hasN X ys)) ∧ w' = W) := fun W kW => has_list w W q ys X (r4.kept kW) (by omega)
      have HL : Hid (∀ W, Kp [] w4 W → Li w W q ys ∧ Ev w w W) := fun W kW => ⟨r4.kept kW, e4.back kW⟩
      have P2 : Hid (scp 2 [X] ys = true → scp 1 [X] ys = true) := scp_more 2 _ (Or.inl rfl) _
      have P3 : Hid (scp 3 [X] ys = true → scp 1 [X] ys = true) := scp_more 3 _ (Or.inr rfl) _
      have PH : Hid (scp 1 [X] ys = true → hasN X ys = true) := scp_has 1 X ys
      have P4 : Hid (scp 4 [X] ys = true → hasN X ys = true) := scp_has 4 X ys
      have S1 := HS.out w4 1 (Kp.refl _ _)
      have HS2 : Hid (∀ W, Kp [] w4 W → _) := fun W kW => HS.out W 2 kW
      have HS3 : Hid (∀ W, Kp [] w4 W → _) := fun W kW => HS.out W 3 kW
      have HS4 : Hid (∀ W, Kp [] w4 W → _) := fun W kW => HS.out W 4 kW
      clear r4 e4 HS hyl
      generalize scp 1 [X] ys = A1 at S1 P2 P3 PH
      generalize scp 2 [X] ys = A2 at HS2 P2
      generalize scp 3 [X] ys = A3 at HS3 P3
      generalize scp 4 [X] ys = A4 at HS4 P4
      generalize hasN X ys = H at HH PH P4
      go_wp2_with fail
      refine S1.mono ?_
      rintro e w5 ⟨rfl, k5⟩
      have S2 := HS2.out w5 k5
      clear S1 HS2 k5
      go_wp2_with fail
      refine S2.mono ?_
      rintro e w6 ⟨rfl, k6⟩
      have S3 := HS3.out w6 k6
      clear S2 HS3 k6
      go_wp2_with fail
      refine S3.mono ?_
      rintro e w7 ⟨rfl, k7⟩
      have S4 := HS4.out w7 k7
      have SH := HH.out w7 k7
      have K7 : Hid (Kp [] w4 w7) := k7
      clear S3 HS4 k7
      have Z2 := P2.out
      have Z3 := P3.out
      have ZH := PH.out
      have Z4 := P4.out
      clear P2 P3 PH P4
      cases A1
      · obtain rfl : A2 = false := by cases A2; rfl; simp at Z2
        obtain rfl : A3 = false := by cases A3; rfl; simp at Z3
        clear Z2 Z3 ZH
        cases A4
        · clear Z4 SH HH
          go_wp2_with fail
          refine S4.mono ?_
          rintro e w8 ⟨rfl, k8⟩
          have R : Hid (Li w w8 q ys ∧ Ev w w w8) := HL.out w8 k8
          clear S4 HL K7 k8
          go_wp2
          go_roundw
          case rel => exact ⟨k + 1, ys, by omega, by omega, HYL.out, by go_num, R.out.1, R.out.2⟩
          case measure => simp [intOf]; omega
        · obtain rfl : H = true := Z4 rfl
          clear Z4 SH
          go_wp2_with fail
          refine S4.mono ?_
          rintro e w8 ⟨rfl, k8⟩
          have R : Hid (Li w w8 q ys ∧ Ev w w w8) := HL.out w8 k8
          have SH := HH.out w8 k8
          clear S4 HL K7 k8 HH
          go_wp2_with (first | (go_at_call 21; refine (SH).mono ?_; rintro e w9 ⟨rfl, hw⟩; have hw2 := hw.symm; clear hw; subst hw2))
          go_roundw
          case rel => exact ⟨k + 1, ys, by omega, by omega, HYL.out, by go_num, R.out.1, R.out.2⟩
          case measure => simp [intOf]; omega
      · obtain rfl : H = true := ZH rfl
        clear Z2 Z3 ZH Z4
        cases A2 <;> cases A3 <;> cases A4
        all_goals
          go_wp2_with (first | (go_at_call 21; refine (SH).mono ?_; rintro e w9 ⟨rfl, hw⟩; have hw2 := hw.symm; clear hw; subst hw2))
          refine S4.mono ?_
          rintro e w8 ⟨rfl, k8⟩
          have R : Hid (Li w w8 q ys ∧ Ev w w w8) := HL.out w8 k8
          have SH2 := HH.out w8 k8
          clear S4 HL K7 k8 HH SH
          go_wp2_with (first | (go_at_call 21; refine (SH2).mono ?_; rintro e w9 ⟨rfl, hw⟩; have hw2 := hw.symm; clear hw; subst hw2))
          go_roundw
          case rel => exact ⟨k + 1, ys, by omega, by omega, HYL.out, by go_num, R.out.1, R.out.2⟩
          case measure => simp [intOf]; omega
    · have hz9 : zs.length < 80000 := by omega
      have HE2 : Hid (Ev w w wr) := er
      have HP := push_list w wr q zs (99, 1, ⟨#[116, 97, 98, 108, 101]⟩) hr (by omega)
      unfold iv at HP
      simp only at HP
      have HER : Hid (Ev w w wr) := er
      have hfin : ¬ k < n ∨ (k < n ∧ ¬ k < 30) := by omega
      clear hr er hA hz HR HZ HE2 hlt
      have HTT : Hid (zs.length < 80000) := hz9
      clear hz9
      rcases hfin with g1 | ⟨g0, g1⟩
      all_goals
        go_wp2_with fail
        refine HP.mono ?_
        rintro e w3 ⟨rfl, l3, e3⟩
        clear HP
        have E3 : Ev w w w3 := HER.out.trans e3
        have hy9 : (zs ++ [((99, 1, ⟨#[116, 97, 98, 108, 101]⟩) : It)]).length < 80001 := by rw [List.length_append]; simp; have := HTT.out; omega
        have HS : Hid (∀ W j, Kp [] w3 W → Calls Try.prog 20 #[.pointer (some ⟨q, 0, none⟩), .int .i64 j, .slice (some ⟨W.heap.size, 0, none⟩) 1 1] (W.alloc (.cells #[.string X] 9)) fun e w' => e = .returned (.bool (scp j [X] (zs ++ [(99, 1, ⟨#[116, 97, 98, 108, 101]⟩)]))) ∧ Kp [] w3 w') := fun W j kW => scope_lit w w3 W q _ j X (l3.kept kW) (by omega) kW
        have HPU : Hid (∀ W, Kp [] w3 W → Calls Try.prog 19 #[.pointer (some ⟨q, 0, none⟩), .agg #[.int .i64 100, .int .i64 1, .string X, .slice none 0 0]] W fun e w' => e = .returned (.tuple #[]) ∧ Li w w' q ((zs ++ [(99, 1, ⟨#[116, 97, 98, 108, 101]⟩)]) ++ [(100, 1, X)]) ∧ Ev w w w') := fun W kW =>
          (push_list w W q _ (100, 1, X) (l3.kept kW) (by omega)).mono (fun e w' ⟨e1, e2, e4⟩ => ⟨e1, e2, (E3.back kW).trans e4⟩)
        have HY : Hid ((zs ++ [((99, 1, ⟨#[116, 97, 98, 108, 101]⟩) : It)]).length < 80001) := hy9
        have HTS : Hid (∀ j : Int, 1 ≤ j ∧ j ≤ 4 → (X.toList == (⟨#[116, 97, 98, 108, 101]⟩ : ByteArray).toList) = false → scp j [X] (zs ++ [((99, 1, ⟨#[116, 97, 98, 108, 101]⟩) : It)]) = false) := fun j hj hs => scp_table j X zs 99 hj hs
        clear l3 e3 E3 hy9 HER HTT
        generalize (zs ++ [((99, 1, ⟨#[116, 97, 98, 108, 101]⟩) : It)]) = ys at *
        rcases Bool.eq_false_or_eq_true (X.toList == (⟨#[116, 97, 98, 108, 101]⟩ : ByteArray).toList) with hx0 | hx0
        all_goals (have HX0 : Hid _ := hx0; have hx := hx0; rw [show (⟨#[116, 97, 98, 108, 101]⟩ : ByteArray).toList = [116, 97, 98, 108, 101] by kernel_rfl] at hx; clear hx0)
        · have HP2 := HPU.out w3 (Kp.refl _ _)
          clear HPU HS HTS
          go_wp2_with fail
          refine HP2.mono ?_
          rintro e w8 ⟨rfl, l8, e8⟩
          clear HP2
          have HL8 : (ys ++ [((100, 1, X) : It)]).length < 80002 := by rw [List.length_append]; simp; have := HY.out; omega
          have TS : Hid (∀ W j, Kp [] w8 W → (1 ≤ j ∧ j ≤ 4) → Calls Try.prog 20 #[.pointer (some ⟨q, 0, none⟩), .int .i64 j, .slice (some ⟨W.heap.size, 0, none⟩) 1 1] (W.alloc (.cells #[.string X] 9)) fun e w' => e = .returned (.bool true) ∧ Kp [] w8 w') := fun W j kW hj => by
            have := scope_lit w w8 W q _ j X (l8.kept kW) (by omega) kW
            rw [scp_self j X ys 100 hj] at this
            exact this
          have TU : Hid (∀ W, Kp [] w8 W → Calls Try.prog 22 #[.pointer (some ⟨q, 0, none⟩), .slice (some ⟨W.heap.size, 0, none⟩) 1 1] (W.alloc (.cells #[.string X] 9)) fun e w' => e = .returned (.int .i64 1) ∧ Kp [] w w') := fun W kW => by
            have h1 := until_list w (W.alloc (.cells #[.string X] 9)) q _ [X] W.heap.size 1 (l8.kept (kt kW ((Kp.refl _ _).alloc _))) (heap_new _ _) rfl (by omega) (by omega)
            rw [untN_self] at h1
            exact h1.mono (fun e w' ⟨a1, _, a3⟩ => ⟨a1, ((e8.back kW).trans ((Ev.of_kp ((Kp.refl _ _).alloc _)).trans a3)).kp (Kp.refl _ _)⟩)
          have S1 := TS.out w8 1 (Kp.refl _ _) (by omega)
          have TS4 : Hid (∀ W, Kp [] w8 W → _) := fun W kW => TS.out W 4 kW (by omega)
          clear l8 e8 HY HL8 TS
          go_wp2_with fail
          refine S1.mono ?_
          rintro e w9 ⟨rfl, k9⟩
          have S2 := TS4.out w9 k9
          clear S1 TS4 k9
          go_wp2_with fail
          refine S2.mono ?_
          rintro e w10 ⟨rfl, k10⟩
          have S3 := TU.out w10 k10
          clear S2 TU k10
          go_wp2_with fail
          refine S3.mono ?_
          rintro e w11 ⟨rfl, k11⟩
          have K11 : Hid (Kp [] w w11) := k11
          have S4 := known_any w11
          clear S3 k11
          go_wp2_with fail
          refine S4.mono ?_
          rintro e w12 ⟨rfl, k12⟩
          have R := kt K11.out k12
          clear S4 k12 K11
          go_wp2
          go_ret
          exact ⟨rfl, R⟩
        · have S1 := HS.out w3 1 (Kp.refl _ _)
          rw [HTS.out 1 (by omega) HX0.out] at S1
          have HS4 : Hid (∀ W, Kp [] w3 W → _) := fun W kW => HS.out W 4 kW
          have HS3 : Hid (∀ W, Kp [] w3 W → _) := fun W kW => HS.out W 3 kW
          have HS2 : Hid (∀ W, Kp [] w3 W → _) := fun W kW => HS.out W 2 kW
          go_wp2_with fail
          refine S1.mono ?_
          rintro e w4 ⟨rfl, k4⟩
          have S4 := HS4.out w4 k4
          rw [HTS.out 4 (by omega) HX0.out] at S4
          clear S1 HS4 k4
          go_wp2_with fail
          refine S4.mono ?_
          rintro e w5 ⟨rfl, k5⟩
          have S3 := HS3.out w5 k5
          rw [HTS.out 3 (by omega) HX0.out] at S3
          clear S4 HS3 k5
          go_wp2_with fail
          refine S3.mono ?_
          rintro e w6 ⟨rfl, k6⟩
          have S2 := HS2.out w6 k6
          rw [HTS.out 2 (by omega) HX0.out] at S2
          clear S3 HS2 k6
          go_wp2_with fail
          refine S2.mono ?_
          rintro e w7 ⟨rfl, k7⟩
          have K7 : Hid (Kp [] w3 w7) := k7
          clear S2 k7
          have HP2 := HPU.out w7 K7.out
          clear HPU HS HTS
          go_wp2_with fail
          refine HP2.mono ?_
          rintro e w8 ⟨rfl, l8, e8⟩
          clear HP2
          have HL8 : (ys ++ [((100, 1, X) : It)]).length < 80002 := by rw [List.length_append]; simp; have := HY.out; omega
          have TS : Hid (∀ W j, Kp [] w8 W → (1 ≤ j ∧ j ≤ 4) → Calls Try.prog 20 #[.pointer (some ⟨q, 0, none⟩), .int .i64 j, .slice (some ⟨W.heap.size, 0, none⟩) 1 1] (W.alloc (.cells #[.string X] 9)) fun e w' => e = .returned (.bool true) ∧ Kp [] w8 w') := fun W j kW hj => by
            have := scope_lit w w8 W q _ j X (l8.kept kW) (by omega) kW
            rw [scp_self j X ys 100 hj] at this
            exact this
          have TU : Hid (∀ W, Kp [] w8 W → Calls Try.prog 22 #[.pointer (some ⟨q, 0, none⟩), .slice (some ⟨W.heap.size, 0, none⟩) 1 1] (W.alloc (.cells #[.string X] 9)) fun e w' => e = .returned (.int .i64 1) ∧ Kp [] w w') := fun W kW => by
            have h1 := until_list w (W.alloc (.cells #[.string X] 9)) q _ [X] W.heap.size 1 (l8.kept (kt kW ((Kp.refl _ _).alloc _))) (heap_new _ _) rfl (by omega) (by omega)
            rw [untN_self] at h1
            exact h1.mono (fun e w' ⟨a1, _, a3⟩ => ⟨a1, ((e8.back kW).trans ((Ev.of_kp ((Kp.refl _ _).alloc _)).trans a3)).kp (Kp.refl _ _)⟩)
          have S1 := TS.out w8 1 (Kp.refl _ _) (by omega)
          have TS4 : Hid (∀ W, Kp [] w8 W → _) := fun W kW => TS.out W 4 kW (by omega)
          clear l8 e8 HY HL8 TS
          go_wp2_with fail
          refine S1.mono ?_
          rintro e w9 ⟨rfl, k9⟩
          have S2 := TS4.out w9 k9
          clear S1 TS4 k9
          go_wp2_with fail
          refine S2.mono ?_
          rintro e w10 ⟨rfl, k10⟩
          have S3 := TU.out w10 k10
          clear S2 TU k10
          go_wp2_with fail
          refine S3.mono ?_
          rintro e w11 ⟨rfl, k11⟩
          have K11 : Hid (Kp [] w w11) := k11
          have S4 := known_any w11
          clear S3 k11
          go_wp2_with fail
          refine S4.mono ?_
          rintro e w12 ⟨rfl, k12⟩
          have R := kt K11.out k12
          clear S4 k12 K11
          go_wp2
          go_ret
          exact ⟨rfl, R⟩

end Go.Proofs.Ytpadnfpifldoaaa.Ints
