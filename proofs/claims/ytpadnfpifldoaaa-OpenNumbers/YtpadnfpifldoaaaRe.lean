/-
  drop and until of the laws.
-/
import Derived.Test.YtpadnfpifldoaaaRd
import Derived.Test.YtpadnfpifldoaaaStp
namespace Go.Proofs.Ytpadnfpifldoaaa.Ints
open Go.RowKit
set_option linter.unusedSimpArgs false

theorem isIn_imp (x : It) : isIn IMP x = ((x.2.1 == 1) && has IMPL x.2.2) := by
  unfold isIn
  rw [← any_txt]
  rfl

theorem goI_eq (but : ByteArray) (x : It) : goI but x = (isIn IMP x && !(x.2.2.toList == but.toList)) := by
  rw [isIn_imp, goI]
  cases (x.2.1 == 1) <;> cases (x.2.2.toList == but.toList) <;> cases has IMPL x.2.2 <;> rfl

/-- A copy of an element, in a new block. -/
theorem bx_new (w : World) (x : It) : Bx (w.alloc (.cells (ic x) 36)) (some ⟨w.heap.size, 0, none⟩) x := ⟨_, rfl, heap_new _ _⟩

set_option maxHeartbeats 2000000 in
theorem drop_thor (w : World) (zs : List It) (bo : Option Addr) (m d : Nat) (hz : Rs w bo m d zs) (hl : m < 100000) :
    Calls Try.prog 41 #[.slice bo m d, .int .i64 8, .slice none 0 0] w fun e w' => ∃ j, e = .returned (.slice bo j d) ∧ j ≤ m ∧ zs.take j = popW goT zs ∧ Kp [] w w' := by
  obtain rfl : m = zs.length := hz.len
  have hcap := hz.cap
  obtain ⟨A, hA⟩ : ∃ A, popW goT (zs.take zs.length) = A := ⟨_, rfl⟩
  rw [show popW goT zs = A by rw [← hA, List.take_of_length_le (Nat.le_refl _)]]
  go_enter Try.func41, Try.ntmps41
  go_wp2
  go_loopw [0, 7] (fun l i wr => ∃ k : Nat, k ≤ zs.length ∧ l = .slice bo k d ∧ i = .int .i64 k ∧ Kp [] w wr ∧ popW goT (zs.take k) = A) (fun _ i _ => (intOf i).toNat)
  case atStart => exact ⟨zs.length, Nat.le_refl _, rfl, rfl, Kp.refl _ _, hA⟩
  case round =>
    obtain ⟨k, hk, rfl, rfl, kr, hp⟩ := hrel
    have KR : Hid (Kp [] w wr) := kr
    clear hA
    rcases k with _ | k
    · rw [List.take_zero, popW_nil] at hp
      have HF : Hid (zs.take 0 = A) := by rw [← hp]; rfl
      clear hz  kr hp
      go_wp2
      go_ret
      exact ⟨0, rfl, Nat.zero_le _, HF.out, KR.out⟩
    · obtain ⟨b, off, rfl, c0, c1, c2, c3⟩ := (hz.kept kr).get k (by omega)
      have HF : Hid (zs.take (k + 1) = zs.take k ++ [zs[k]'(by omega)]) := List.take_succ_eq_append_getElem (by omega)
      rw [List.take_succ_eq_append_getElem (by omega), popW_snoc] at hp
      have hk2 : k < zs.length := by omega
      have hk3 : k + 1 ≤ d := by omega
      have hk4 : k ≤ d := by omega
      generalize zs[k] = x at c0 c1 c2 c3 hp HF
      have k1 : Kp [] w (wr.alloc (.cells (ic x) 36)) := kr.alloc _
      have HX : Hid (∀ W, Kp [] (wr.alloc (.cells (ic x) 36)) W → Kp [] w W ∧ Bx W (some ⟨wr.heap.size, 0, none⟩) x) := fun W kW => ⟨k1.trans kW (fun y hy => by simp at hy), (bx_new wr x).kept kW⟩
      have HT : Hid (∀ W, Kp [] (wr.alloc (.cells (ic x) 36)) W → Calls Try.prog 31 #[.string x.2.2] W fun e w' => e = .returned (.bool (thorough x.2.2)) ∧ Kp [] W w') := fun W _ => ref_thorough_any W x.2.2
      generalize hG : goT x = G at hp
      obtain ⟨hh, ns, nm⟩ := x
      simp only [ic, iv] at *
      clear hz  kr k1
      have H2 := HT.out _ (Kp.refl _ _)
      obtain ⟨K2, B2⟩ := HX.out _ (Kp.refl _ _)
      obtain ⟨g, hg, d0, d1, d2, d3⟩ := B2.out
      simp only [Option.some.injEq, Addr.mk.injEq, and_true] at hg
      subst hg
      unfold goT at hG
      simp only at hG
      have KH : Hid _ := K2
      clear HX HT B2 K2
      rcases Bool.eq_false_or_eq_true (ns == 1) with h1 | h1
      · rw [h1, Bool.true_and] at hG
        rw [hG] at H2
        go_wp2_with fail
        refine H2.mono ?_
        rintro e w2 ⟨rfl, k2⟩
        have K3 : Hid (Kp [] w w2) := KH.out.trans k2 (fun y hy => by simp at hy)
        clear k2 H2 c0 c1 c2 c3 hG
        cases G
        · simp only [Bool.false_eq_true, if_false] at hp
          go_wp2
          go_ret
          exact ⟨k + 1, rfl, by omega, by rw [HF.out]; exact hp, K3.out⟩
        · simp only [if_true] at hp
          go_wp2
          go_roundw
          case rel => exact ⟨k, by omega, by go_num, by go_num, K3.out, hp⟩
          case measure => simp [intOf]
      · rw [h1, Bool.false_and] at hG
        subst hG
        clear H2
        simp only [Bool.false_eq_true, if_false] at hp
        go_wp2
        go_ret
        exact ⟨k + 1, rfl, by omega, by rw [HF.out]; exact hp, KH.out⟩

set_option maxHeartbeats 2000000 in
theorem drop_clear (w : World) (zs : List It) (L : List ByteArray) (ao : Option Addr) (n c : Nat) (bo : Option Addr) (m d : Nat) (hz : Rs w bo m d zs) (hR : Rb w ao n c (tx L)) (hn : n ≤ 1000) (hl : m < 100000) :
    Calls Try.prog 41 #[.slice bo m d, .int .i64 9, .slice ao n c] w fun e w' => ∃ j, e = .returned (.slice bo j d) ∧ j ≤ m ∧ zs.take j = popW (goC L) zs ∧ Kp [] w w' := by
  obtain rfl : m = zs.length := hz.len
  have hcap := hz.cap
  obtain ⟨A, hA⟩ : ∃ A, popW (goC L) (zs.take zs.length) = A := ⟨_, rfl⟩
  rw [show popW (goC L) zs = A by rw [← hA, List.take_of_length_le (Nat.le_refl _)]]
  go_enter Try.func41, Try.ntmps41
  go_wp2
  go_loopw [0, 7] (fun l i wr => ∃ k : Nat, k ≤ zs.length ∧ l = .slice bo k d ∧ i = .int .i64 k ∧ Kp [] w wr ∧ popW (goC L) (zs.take k) = A) (fun _ i _ => (intOf i).toNat)
  case atStart => exact ⟨zs.length, Nat.le_refl _, rfl, rfl, Kp.refl _ _, hA⟩
  case round =>
    obtain ⟨k, hk, rfl, rfl, kr, hp⟩ := hrel
    have KR : Hid (Kp [] w wr) := kr
    clear hA
    rcases k with _ | k
    · rw [List.take_zero, popW_nil] at hp
      have HF : Hid (zs.take 0 = A) := by rw [← hp]; rfl
      clear hz hR kr hp
      go_wp2
      go_ret
      exact ⟨0, rfl, Nat.zero_le _, HF.out, KR.out⟩
    · obtain ⟨b, off, rfl, c0, c1, c2, c3⟩ := (hz.kept kr).get k (by omega)
      have HF : Hid (zs.take (k + 1) = zs.take k ++ [zs[k]'(by omega)]) := List.take_succ_eq_append_getElem (by omega)
      rw [List.take_succ_eq_append_getElem (by omega), popW_snoc] at hp
      have hk2 : k < zs.length := by omega
      have hk3 : k + 1 ≤ d := by omega
      have hk4 : k ≤ d := by omega
      generalize zs[k] = x at c0 c1 c2 c3 hp HF
      have k1 : Kp [] w (wr.alloc (.cells (ic x) 36)) := kr.alloc _
      have HX : Hid (∀ W, Kp [] (wr.alloc (.cells (ic x) 36)) W → Kp [] w W ∧ Bx W (some ⟨wr.heap.size, 0, none⟩) x) := fun W kW => ⟨k1.trans kW (fun y hy => by simp at hy), (bx_new wr x).kept kW⟩
      have HI : Hid (∀ W, Kp [] (wr.alloc (.cells (ic x) 36)) W → Calls Try.prog 33 #[iv x, .slice ao n c] W fun e w' => e = .returned (.bool (isIn L x)) ∧ Kp [] W w') := fun W kW => lis_any W x L ao n c (hR.kept (k1.trans kW (fun y hy => by simp at hy))) hn
      have HL : Hid (∀ W, Kp [] (wr.alloc (.cells (ic x) 36)) W → Calls Try.prog 33 #[iv x, .slice (some ⟨W.heap.size, 0, none⟩) 2 2] (W.alloc (.cells #[.string ⟨#[104, 116, 109, 108]⟩, .string ⟨#[116, 101, 109, 112, 108, 97, 116, 101]⟩] 9)) fun e w' => e = .returned (.bool (isIn HTM x)) ∧ Kp [] W w') := fun W kW => lis_lit W W x HTM 2 _ (Kp.refl _ _) (by kernel_rfl) (by kernel_rfl) (by omega)
      generalize hG : (goC L) x = G at hp
      obtain ⟨hh, ns, nm⟩ := x
      simp only [ic, iv] at *
      clear hz hR kr k1
      have H2 := HI.out _ (Kp.refl _ _)
      obtain ⟨K2, B2⟩ := HX.out _ (Kp.refl _ _)
      obtain ⟨g, hg, d0, d1, d2, d3⟩ := B2.out
      simp only [Option.some.injEq, Addr.mk.injEq, and_true] at hg
      subst hg
      unfold goC at hG
      have KH : Hid _ := K2
      clear HI B2 K2
      generalize isIn L (hh, ns, nm) = I at H2 hG
      generalize hIH : isIn HTM (hh, ns, nm) = J at hG
      go_wp2_with fail
      refine H2.mono ?_
      rintro e w2 ⟨rfl, k2⟩
      obtain ⟨K3, B3⟩ := HX.out w2 k2
      obtain ⟨g, hg, d0, d1, d2, d3⟩ := B3.out
      simp only [Option.some.injEq, Addr.mk.injEq, and_true] at hg
      subst hg
      have HJ := HL.out w2 k2
      rw [hIH] at HJ
      have K4 : Hid (Kp [] w w2) := K3
      clear k2 H2 c0 c1 c2 c3 HX HL B3 K3
      cases I
      · rw [Bool.not_false, Bool.true_and] at hG
        go_wp2_with fail
        refine HJ.mono ?_
        rintro e w3 ⟨rfl, k3⟩
        have K5 : Hid (Kp [] w w3) := K4.out.trans k3 (fun y hy => by simp at hy)
        clear k3 HJ d0 d1 d2 d3
        subst hG
        cases J
        · simp only [Bool.not_false, if_true] at hp
          go_wp2
          go_roundw
          case rel => exact ⟨k, by omega, by go_num, by go_num, K5.out, hp⟩
          case measure => simp [intOf]
        · simp only [Bool.not_true, Bool.false_eq_true, if_false] at hp
          go_wp2
          go_ret
          exact ⟨k + 1, rfl, by omega, by rw [HF.out]; exact hp, K5.out⟩
      · rw [Bool.not_true, Bool.false_and] at hG
        subst hG
        clear HJ d0 d1 d2 d3
        simp only [Bool.false_eq_true, if_false] at hp
        go_wp2
        go_ret
        exact ⟨k + 1, rfl, by omega, by rw [HF.out]; exact hp, K4.out⟩

set_option maxHeartbeats 2000000 in
theorem drop_imply (w : World) (zs : List It) (a : ByteArray) (L : List ByteArray) (ao : Option Addr) (n c : Nat) (bo : Option Addr) (m d : Nat) (hz : Rs w bo m d zs) (hR : Rb w ao n c (tx (a :: L))) (hn : 1 ≤ n ∧ n ≤ 1000) (hl : m < 100000) :
    Calls Try.prog 41 #[.slice bo m d, .int .i64 7, .slice ao n c] w fun e w' => ∃ j, e = .returned (.slice bo j d) ∧ j ≤ m ∧ zs.take j = popW (goI a) zs ∧ Kp [] w w' := by
  obtain rfl : m = zs.length := hz.len
  have hcap := hz.cap
  obtain ⟨A, hA⟩ : ∃ A, popW (goI a) (zs.take zs.length) = A := ⟨_, rfl⟩
  rw [show popW (goI a) zs = A by rw [← hA, List.take_of_length_le (Nat.le_refl _)]]
  go_enter Try.func41, Try.ntmps41
  go_wp2
  go_loopw [0, 7] (fun l i wr => ∃ k : Nat, k ≤ zs.length ∧ l = .slice bo k d ∧ i = .int .i64 k ∧ Kp [] w wr ∧ popW (goI a) (zs.take k) = A) (fun _ i _ => (intOf i).toNat)
  case atStart => exact ⟨zs.length, Nat.le_refl _, rfl, rfl, Kp.refl _ _, hA⟩
  case round =>
    obtain ⟨k, hk, rfl, rfl, kr, hp⟩ := hrel
    have KR : Hid (Kp [] w wr) := kr
    clear hA
    rcases k with _ | k
    · rw [List.take_zero, popW_nil] at hp
      have HF : Hid (zs.take 0 = A) := by rw [← hp]; rfl
      clear hz hR kr hp
      go_wp2
      go_ret
      exact ⟨0, rfl, Nat.zero_le _, HF.out, KR.out⟩
    · obtain ⟨b, off, rfl, c0, c1, c2, c3⟩ := (hz.kept kr).get k (by omega)
      have HF : Hid (zs.take (k + 1) = zs.take k ++ [zs[k]'(by omega)]) := List.take_succ_eq_append_getElem (by omega)
      rw [List.take_succ_eq_append_getElem (by omega), popW_snoc] at hp
      have hk2 : k < zs.length := by omega
      have hk3 : k + 1 ≤ d := by omega
      have hk4 : k ≤ d := by omega
      generalize zs[k] = x at c0 c1 c2 c3 hp HF
      have k1 : Kp [] w (wr.alloc (.cells (ic x) 36)) := kr.alloc _
      have HX : Hid (∀ W, Kp [] (wr.alloc (.cells (ic x) 36)) W → Kp [] w W ∧ Bx W (some ⟨wr.heap.size, 0, none⟩) x) := fun W kW => ⟨k1.trans kW (fun y hy => by simp at hy), (bx_new wr x).kept kW⟩
      have HJ : Hid (∀ W, Kp [] (wr.alloc (.cells (ic x) 36)) W → Calls Try.prog 33 #[iv x, .slice (some ⟨W.heap.size, 0, none⟩) 4 4] (W.alloc (.cells #[.string ⟨#[100, 100]⟩, .string ⟨#[100, 116]⟩, .string ⟨#[108, 105]⟩, .string ⟨#[112]⟩] 9)) fun e w' => e = .returned (.bool (isIn IMP x)) ∧ Kp [] (wr.alloc (.cells (ic x) 36)) w') := fun W kW => lis_lit _ W x IMP 4 _ kW (by kernel_rfl) (by kernel_rfl) (by omega)
      have HN : Hid (∀ W, Kp [] (wr.alloc (.cells (ic x) 36)) W → ∃ b off, ao = some ⟨b, off, none⟩ ∧ W.cell? ⟨b, off, none⟩ = some (.string a)) := fun W kW => by
        obtain ⟨b, off, h1, h2⟩ := (hR.kept (k1.trans kW (fun y hy => by simp at hy))).tx_at 0 (by simp)
        exact ⟨b, off, h1, by rw [Nat.add_zero] at h2; exact h2⟩
      generalize hG : (goI a) x = G at hp
      obtain ⟨hh, ns, nm⟩ := x
      simp only [ic, iv] at *
      clear hz hR kr k1
      have H2 := HJ.out
      obtain ⟨K2, B2⟩ := HX.out _ (Kp.refl _ _)
      obtain ⟨g, hg, d0, d1, d2, d3⟩ := B2.out
      simp only [Option.some.injEq, Addr.mk.injEq, and_true] at hg
      subst hg
      rw [goI_eq] at hG
      have KH : Hid _ := K2
      obtain ⟨nb, no, rfl, n0⟩ := HN.out _ (Kp.refl _ _)
      have hn0 : 0 < n := by omega
      clear HJ B2 K2
      have H3 : Hid _ := H2
      clear H2
      generalize isIn IMP (hh, ns, nm) = I at H3 hG
      simp only at hG
      obtain ⟨w1, hw1⟩ : ∃ w1, w1 = wr.alloc (.cells #[.int .i64 hh, .int .i64 ns, .string nm, .slice none 0 0] 36) := ⟨_, rfl⟩
      rw [← hw1] at H3 HX HN d0 d1 d2 d3 n0 KH
      have CC : Hid (∀ W, Kp [] w1 W → W.cell? ⟨wr.heap.size, 0, none⟩ = some (.int .i64 hh) ∧ W.cell? ⟨wr.heap.size, 1, none⟩ = some (.int .i64 ns) ∧ W.cell? ⟨wr.heap.size, 2, none⟩ = some (.string nm) ∧ W.cell? ⟨wr.heap.size, 3, none⟩ = some (.slice none 0 0) ∧ W.cell? ⟨nb, no, none⟩ = some (.string a)) := fun W kW => by
        obtain ⟨g, hg, e0, e1, e2, e3⟩ := (HX.out W kW).2.out
        simp only [Option.some.injEq, Addr.mk.injEq, and_true] at hg
        subst hg
        obtain ⟨nb', no', hn1, hn2⟩ := HN.out W kW
        simp only [Option.some.injEq, Addr.mk.injEq, and_true] at hn1
        obtain ⟨rfl, rfl⟩ := hn1
        exact ⟨e0, e1, e2, e3, hn2⟩
      cases I
      · rw [Bool.false_and] at hG
        subst hG
        go_wp2_with fail
        rw [← hw1]
        clear hw1
        refine wp_region_g (S := fun V => V.cell? ⟨wr.heap.size, 0, none⟩ = some (.int .i64 hh) ∧ V.cell? ⟨wr.heap.size, 1, none⟩ = some (.int .i64 ns) ∧ V.cell? ⟨wr.heap.size, 2, none⟩ = some (.string nm) ∧ V.cell? ⟨wr.heap.size, 3, none⟩ = some (.slice none 0 0) ∧ V.cell? ⟨nb, no, none⟩ = some (.string a)) (T := []) (by kernel_rfl) (CC.out _ (Kp.refl [] w1).drew) (fun hHeld => ?_)
        refine g_take 0 (some 24) (.load 36 (.tmp 8)) (by intro w hSw; (obtain ⟨q0, q1, q2, q3, q4⟩ := hSw); go_simp; try with_reducible rfl) ?_
        refine wpAnyG_ready (rs := [1]) (by kernel_rfl) (by simp) ?_
        refine AllReadyG.cons (o := ⟨some 25, .buildSlice 72 4 #[(0, .const (.string { data := #[100, 100] })), (1, .const (.string { data := #[100, 116] })), (2, .const (.string { data := #[108, 105] })), (3, .const (.string { data := #[112] }))], 72, _, _, none⟩) rfl (fun K hK => ?_) AllReadyG.nil
        go_simp
        refine hK.out _ _ (CC.out _ ((Kp.refl [] w1).drew.alloc _)) (fun hHeld1 => ?_)
        clear hK K hHeld
        try simp only [Act.put, pu1, pu2, pu3]
        refine wpAnyG_ready (rs := [2]) (by kernel_rfl) (by simp) ?_
        refine AllReadyG.cons (o := ⟨some 26, .call { callee := .value (.func 33), args := #[.tmp 24, .tmp 25], argTypes := #[36, 72] }, 4, _, _, none⟩) rfl (fun K hK => ?_) AllReadyG.nil
        go_simp
        go_at_call 33
        refine (H3.out _ (Kp.refl [] w1).drew).mono ?_
        rintro e w2 ⟨rfl, k2⟩
        go_wp2_with fail
        refine hK.out _ _ (CC.out _ k2) (fun hHeld2 => ?_)
        clear hK K hHeld1
        try simp only [Act.put, pu1, pu2, pu3]
        refine g_pure 3 (some 27) (.move (.tmp 26)) ?_
        refine g_skip 4 (some 28) (.fieldAddr 36 (.tmp 8) 2) ?_
        refine g_skip 5 (some 29) (.load 9 (.tmp 28)) ?_
        refine g_skip 6 (some 30) (.move (.tmp 2)) ?_
        refine g_skip 7 (some 31) (.indexAddr 72 (.tmp 30) (.const (.int .i64 0))) ?_
        refine g_skip 8 (some 32) (.load 9 (.tmp 31)) ?_
        refine g_skip 9 (some 33) (.binOp .neq 9 (.tmp 29) (.tmp 32) 9) ?_
        refine g_pure 10 (some 34) (.pick (.tmp 27) (.tmp 33) (.const (.bool false))) ?_
        refine g_pure 11 (some 9) (.assign (.tmp 34)) ?_
        refine wpAnyG_free (by kernel_rfl) ?_
        refine wpAny_done (by kernel_rfl) ?_ _
        skip
        have K2 : Hid (Kp [] w w2) := (HX.out w2 k2).1
        clear HX HN H3 CC k2
        simp only [Bool.false_eq_true, if_false] at hp
        go_wp2
        go_ret
        exact ⟨k + 1, rfl, by omega, by rw [HF.out]; exact hp, K2.out⟩
      · rw [Bool.true_and] at hG
        have hne : (nm.toList == a.toList) = !G := by rw [← hG, Bool.not_not]
        clear hG
        cases G
        · rw [Bool.not_false] at hne
          go_wp2_with fail
          rw [← hw1]
          clear hw1
          refine wp_region_g (S := fun V => V.cell? ⟨wr.heap.size, 0, none⟩ = some (.int .i64 hh) ∧ V.cell? ⟨wr.heap.size, 1, none⟩ = some (.int .i64 ns) ∧ V.cell? ⟨wr.heap.size, 2, none⟩ = some (.string nm) ∧ V.cell? ⟨wr.heap.size, 3, none⟩ = some (.slice none 0 0) ∧ V.cell? ⟨nb, no, none⟩ = some (.string a)) (T := []) (by kernel_rfl) (CC.out _ (Kp.refl [] w1).drew) (fun hHeld => ?_)
          refine g_take 0 (some 24) (.load 36 (.tmp 8)) (by intro w hSw; (obtain ⟨q0, q1, q2, q3, q4⟩ := hSw); go_simp; try with_reducible rfl) ?_
          refine wpAnyG_ready (rs := [1]) (by kernel_rfl) (by simp) ?_
          refine AllReadyG.cons (o := ⟨some 25, .buildSlice 72 4 #[(0, .const (.string { data := #[100, 100] })), (1, .const (.string { data := #[100, 116] })), (2, .const (.string { data := #[108, 105] })), (3, .const (.string { data := #[112] }))], 72, _, _, none⟩) rfl (fun K hK => ?_) AllReadyG.nil
          go_simp
          refine hK.out _ _ (CC.out _ ((Kp.refl [] w1).drew.alloc _)) (fun hHeld1 => ?_)
          clear hK K hHeld
          try simp only [Act.put, pu1, pu2, pu3]
          refine wpAnyG_ready (rs := [2]) (by kernel_rfl) (by simp) ?_
          refine AllReadyG.cons (o := ⟨some 26, .call { callee := .value (.func 33), args := #[.tmp 24, .tmp 25], argTypes := #[36, 72] }, 4, _, _, none⟩) rfl (fun K hK => ?_) AllReadyG.nil
          go_simp
          go_at_call 33
          refine (H3.out _ (Kp.refl [] w1).drew).mono ?_
          rintro e w2 ⟨rfl, k2⟩
          go_wp2_with fail
          refine hK.out _ _ (CC.out _ k2) (fun hHeld2 => ?_)
          clear hK K hHeld1
          try simp only [Act.put, pu1, pu2, pu3]
          refine g_pure 3 (some 27) (.move (.tmp 26)) ?_
          refine g_pure 4 (some 28) (.fieldAddr 36 (.tmp 8) 2) ?_
          refine g_take 5 (some 29) (.load 9 (.tmp 28)) (by intro w hSw; (obtain ⟨q0, q1, q2, q3, q4⟩ := hSw); go_simp; try with_reducible rfl) ?_
          refine g_pure 6 (some 30) (.move (.tmp 2)) ?_
          refine g_pure 7 (some 31) (.indexAddr 72 (.tmp 30) (.const (.int .i64 0))) ?_
          refine g_take 8 (some 32) (.load 9 (.tmp 31)) (by intro w hSw; (obtain ⟨q0, q1, q2, q3, q4⟩ := hSw); go_simp; try with_reducible rfl) ?_
          refine g_pure 9 (some 33) (.binOp .neq 9 (.tmp 29) (.tmp 32) 9) ?_
          refine g_pure 10 (some 34) (.pick (.tmp 27) (.tmp 33) (.const (.bool false))) ?_
          refine g_pure 11 (some 9) (.assign (.tmp 34)) ?_
          refine wpAnyG_free (by kernel_rfl) ?_
          refine wpAny_done (by kernel_rfl) ?_ _
          skip
          have K2 : Hid (Kp [] w w2) := (HX.out w2 k2).1
          clear HX HN H3 CC k2
          simp only [Bool.false_eq_true, if_false] at hp
          go_wp2
          go_ret
          exact ⟨k + 1, rfl, by omega, by rw [HF.out]; exact hp, K2.out⟩
        · rw [Bool.not_true] at hne
          go_wp2_with fail
          rw [← hw1]
          clear hw1
          refine wp_region_g (S := fun V => V.cell? ⟨wr.heap.size, 0, none⟩ = some (.int .i64 hh) ∧ V.cell? ⟨wr.heap.size, 1, none⟩ = some (.int .i64 ns) ∧ V.cell? ⟨wr.heap.size, 2, none⟩ = some (.string nm) ∧ V.cell? ⟨wr.heap.size, 3, none⟩ = some (.slice none 0 0) ∧ V.cell? ⟨nb, no, none⟩ = some (.string a)) (T := []) (by kernel_rfl) (CC.out _ (Kp.refl [] w1).drew) (fun hHeld => ?_)
          refine g_take 0 (some 24) (.load 36 (.tmp 8)) (by intro w hSw; (obtain ⟨q0, q1, q2, q3, q4⟩ := hSw); go_simp; try with_reducible rfl) ?_
          refine wpAnyG_ready (rs := [1]) (by kernel_rfl) (by simp) ?_
          refine AllReadyG.cons (o := ⟨some 25, .buildSlice 72 4 #[(0, .const (.string { data := #[100, 100] })), (1, .const (.string { data := #[100, 116] })), (2, .const (.string { data := #[108, 105] })), (3, .const (.string { data := #[112] }))], 72, _, _, none⟩) rfl (fun K hK => ?_) AllReadyG.nil
          go_simp
          refine hK.out _ _ (CC.out _ ((Kp.refl [] w1).drew.alloc _)) (fun hHeld1 => ?_)
          clear hK K hHeld
          try simp only [Act.put, pu1, pu2, pu3]
          refine wpAnyG_ready (rs := [2]) (by kernel_rfl) (by simp) ?_
          refine AllReadyG.cons (o := ⟨some 26, .call { callee := .value (.func 33), args := #[.tmp 24, .tmp 25], argTypes := #[36, 72] }, 4, _, _, none⟩) rfl (fun K hK => ?_) AllReadyG.nil
          go_simp
          go_at_call 33
          refine (H3.out _ (Kp.refl [] w1).drew).mono ?_
          rintro e w2 ⟨rfl, k2⟩
          go_wp2_with fail
          refine hK.out _ _ (CC.out _ k2) (fun hHeld2 => ?_)
          clear hK K hHeld1
          try simp only [Act.put, pu1, pu2, pu3]
          refine g_pure 3 (some 27) (.move (.tmp 26)) ?_
          refine g_pure 4 (some 28) (.fieldAddr 36 (.tmp 8) 2) ?_
          refine g_take 5 (some 29) (.load 9 (.tmp 28)) (by intro w hSw; (obtain ⟨q0, q1, q2, q3, q4⟩ := hSw); go_simp; try with_reducible rfl) ?_
          refine g_pure 6 (some 30) (.move (.tmp 2)) ?_
          refine g_pure 7 (some 31) (.indexAddr 72 (.tmp 30) (.const (.int .i64 0))) ?_
          refine g_take 8 (some 32) (.load 9 (.tmp 31)) (by intro w hSw; (obtain ⟨q0, q1, q2, q3, q4⟩ := hSw); go_simp; try with_reducible rfl) ?_
          refine g_pure 9 (some 33) (.binOp .neq 9 (.tmp 29) (.tmp 32) 9) ?_
          refine g_pure 10 (some 34) (.pick (.tmp 27) (.tmp 33) (.const (.bool false))) ?_
          refine g_pure 11 (some 9) (.assign (.tmp 34)) ?_
          refine wpAnyG_free (by kernel_rfl) ?_
          refine wpAny_done (by kernel_rfl) ?_ _
          skip
          have K2 : Hid (Kp [] w w2) := (HX.out w2 k2).1
          clear HX HN H3 CC k2
          simp only [if_true] at hp
          go_wp2
          go_roundw
          case rel => exact ⟨k, by omega, by go_num, by go_num, K2.out, hp⟩
          case measure => simp [intOf]


end Go.Proofs.Ytpadnfpifldoaaa.Ints
