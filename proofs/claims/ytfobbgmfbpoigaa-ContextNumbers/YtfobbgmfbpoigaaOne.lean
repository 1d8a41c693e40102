/-
  one of the laws: a context judged, and what the lexer is told.
-/
import Derived.Test.YtfobbgmfbpoigaaDis
import Derived.Test.YtfobbgmfbpoigaaStp
namespace Go.Proofs.Ytfobbgmfbpoigaa
open Go.RowKit Ints
set_option linter.unusedSimpArgs false
set_option linter.unusedVariables false

set_option maxRecDepth 100000 in
set_option maxHeartbeats 2000000 in
theorem one_any (w : World) (ns : Int) (s : ByteArray) (l : List Att) (ao : Option Addr) (n c : Nat) (hr : Rp w ao n c l) (hl : n ≤ 400) (hf : fits l) :
    Calls Try.prog 8 #[cv ns s ao n c] w fun e w' => e = .returned (.bool true) ∧ Kp [] w w' := by
  have k1 : Kp [] w (w.alloc (.cells #[.int .i64 ns, .string s, .slice ao n c] 26)) := (Kp.refl _ _).alloc _
  have hb : (w.alloc (.cells #[.int .i64 ns, .string s, .slice ao n c] 26)).heap[w.heap.size]? = some (.cells #[.int .i64 ns, .string s, .slice ao n c] 26 (0, 0)) := heap_new _ _
  obtain ⟨w1, hw1⟩ : ∃ w1, w1 = w.alloc (.cells #[.int .i64 ns, .string s, .slice ao n c] 26) := ⟨_, rfl⟩
  rw [← hw1] at k1 hb
  have K1 : Hid (Kp [] w w1) := k1
  have HCell : Hid (∀ W, Kp [] w1 W → W.cell? ⟨w.heap.size, 0, none⟩ = some (.int .i64 ns) ∧ W.cell? ⟨w.heap.size, 1, none⟩ = some (.string s) ∧ W.cell? ⟨w.heap.size, 2, none⟩ = some (.slice ao n c)) := fun W k => by
    have h : W.heap[w.heap.size]? = some (.cells #[.int .i64 ns, .string s, .slice ao n c] 26 (0, 0)) := by rw [k.block _ (lt_of hb) (by simp)]; exact hb
    exact ⟨cell_of h 0, cell_of h 1, cell_of h 2⟩
  have HU : Hid (∀ W, Kp [] w1 W → Calls Try.prog 17 #[.slice ao n c] W fun e w' => ∃ ao' n' c', e = .returned (.slice ao' n' c') ∧ n' = (uniq l).length ∧ Kp [] W w') := fun W k => by
    refine (ref_uniq_any W l ao n c ((hr.kept k1).kept k) hl).mono ?_
    rintro e w' ⟨a', n', c', rfl, M⟩
    exact ⟨a', n', c', rfl, M.len, M.kp⟩
  have HX : Hid (∀ W b, Calls Try.prog 16 #[.agg #[.int .i64 ns, .string s, .slice ao n c], .bool b] W fun e w' => e = .returned (.int .i64 (lex ns s b)) ∧ Kp [] W w') := fun W b => lexer_any W ns s ao n c b
  have HW : Hid (∀ W b, Calls Try.prog 18 #[.string s, .bool b] W fun e w' => e = .returned (.int .i64 (raw s b)) ∧ w' = W) := fun W b => ref_raw_any W s b
  have HG : Hid (∀ W, Kp [] w1 W → Calls Try.prog 19 #[.agg #[.int .i64 ns, .string s, .slice ao n c]] W fun e w' => e = .returned (.bool (rgt ns s l)) ∧ Kp [] W w') := fun W k => right_any W ns s l ao n c ((hr.kept k1).kept k) (by omega) hf
  obtain ⟨A, hA⟩ : ∃ A, rgt ns s l = A := ⟨_, rfl⟩
  rw [hA] at HG
  unfold rgt at hA
  obtain rfl := hr.len
  have HEQ : Hid (((((uniq l).length : Nat) : Int) == ((l.length : Nat) : Int)) = ((uniq l).length == l.length)) := by
    show _ = _
    rw [Bool.eq_iff_iff, beq_iff_eq, beq_iff_eq]
    omega
  generalize (uniq l).length = U at HU hA HEQ
  obtain ⟨d0, d1, d2⟩ := HCell.out w1 (Kp.refl _ _)
  unfold cv
  clear hr hf k1 hb
  go_enter Try.func8, Try.ntmps8
  go_upto_region 1 with fail
  rw [← hw1]
  clear hw1
  rcases (show ns = 1 ∨ ns = 2 ∨ ((ns == 1) = false ∧ (ns == 2) = false ∧ (ns < 1 ∨ 2 < ns)) by
    by_cases h1 : ns = 1
    · exact Or.inl h1
    · by_cases h2 : ns = 2
      · exact Or.inr (Or.inl h2)
      · exact Or.inr (Or.inr ⟨beq_eq_false_iff_ne.2 h1, beq_eq_false_iff_ne.2 h2, by omega⟩)) with rfl | rfl | ⟨g1, g2, h1⟩
  · cases h3 : (s.toList == [])
    · rw [h3] at hA
      simp only [beq_self_eq_true, Bool.true_or, Bool.not_false, Bool.true_and] at hA
      obtain ⟨U0, hU0⟩ : ∃ V, V = w1.drew := ⟨_, rfl⟩
      have K0 : Hid (Kp [] w1 U0) := by rw [hU0]; exact (Kp.refl _ _).drew
      refine wp_region_g (S := fun V => V.cell? ⟨w.heap.size, 0, none⟩ = some (.int .i64 1) ∧ V.cell? ⟨w.heap.size, 1, none⟩ = some (.string s) ∧ V.cell? ⟨w.heap.size, 2, none⟩ = some (.slice ao l.length c)) (T := []) (by kernel_rfl) (HCell.out _ (Kp.refl [] w1).drew) (fun hHeld => ?_)
      rw [← hU0] at hHeld ⊢
      clear hU0
      refine g_pure 0 (some 6) (.fieldAddr 26 (.tmp 1) 0) ?_
      refine g_take 1 (some 7) (.load 3 (.tmp 6)) (by intro w hSw; (obtain ⟨s0, s1, s2⟩ := hSw); go_simp; try with_reducible rfl) ?_
      refine g_pure 2 (some 8) (.binOp .eql 3 (.tmp 7) (.const (.int .i64 1)) 3) ?_
      refine g_pure 3 (some 9) (.move (.tmp 8)) ?_
      refine g_skip 4 (some 10) (.fieldAddr 26 (.tmp 1) 0) ?_
      refine g_skip 5 (some 11) (.load 3 (.tmp 10)) ?_
      refine g_skip 6 (some 12) (.binOp .eql 3 (.tmp 11) (.const (.int .i64 2)) 3) ?_
      refine g_pure 7 (some 13) (.pick (.tmp 9) (.const (.bool true)) (.tmp 12)) ?_
      refine g_pure 8 (some 14) (.move (.tmp 13)) ?_
      refine g_pure 9 (some 15) (.fieldAddr 26 (.tmp 1) 1) ?_
      refine g_take 10 (some 16) (.load 9 (.tmp 15)) (by intro w hSw; (obtain ⟨s0, s1, s2⟩ := hSw); go_simp; try with_reducible rfl) ?_
      refine g_pure 11 (some 17) (.binOp .neq 9 (.tmp 16) (.const (.string { data := #[] })) 9) ?_
      refine g_pure 12 (some 18) (.pick (.tmp 14) (.tmp 17) (.const (.bool false))) ?_
      refine g_pure 13 (some 19) (.move (.tmp 18)) ?_
      refine g_pure 14 (some 20) (.fieldAddr 26 (.tmp 1) 2) ?_
      refine g_take 15 (some 21) (.load 24 (.tmp 20)) (by intro w hSw; (obtain ⟨s0, s1, s2⟩ := hSw); go_simp; try with_reducible rfl) ?_
      refine g_pure 18 (some 24) (.fieldAddr 26 (.tmp 1) 2) ?_
      refine g_take 19 (some 25) (.load 24 (.tmp 24)) (by intro w hSw; (obtain ⟨s0, s1, s2⟩ := hSw); go_simp; try with_reducible rfl) ?_
      refine g_pure 20 (some 26) (.call { callee := .builtin .len, args := #[.tmp 25], argTypes := #[24] }) ?_
      refine wpAnyG_ready (rs := [16]) (by kernel_rfl) (by simp) ?_
      refine AllReadyG.cons (o := ⟨some 22, .call { callee := .value (.func 17), args := #[.tmp 21], argTypes := #[24] }, 24, _, _, some (13, true)⟩) rfl (fun K hK => ?_) AllReadyG.nil
      go_simp
      go_at_call 17
      refine (HU.out U0 K0.out).mono ?_
      rintro e v1 ⟨a2, n2, c2, rfl, rfl, kk⟩
      have K2 : Hid (Kp [] w1 v1) := kt K0.out kk
      clear kk
      go_wp2_with fail
      refine hK.out _ _ (HCell.out _ K2.out) (fun hHeld1 => ?_)
      clear hK K hHeld
      try simp only [Act.put, pu1, pu2, pu3]
      refine g_pure 17 (some 23) (.call { callee := .builtin .len, args := #[.tmp 22], argTypes := #[24] }) ?_
      refine g_pure 21 (some 27) (.binOp .eql 3 (.tmp 23) (.tmp 26) 3) ?_
      refine g_pure 22 (some 28) (.pick (.tmp 19) (.tmp 27) (.const (.bool false))) ?_
      refine g_pure 23 (some 3) (.assign (.tmp 28)) ?_
      refine wpAnyG_free (by kernel_rfl) ?_
      refine wpAny_done (by kernel_rfl) ?_ _
      skip
      have KZ : Hid (Kp [] w1 v1) := K2.out
      clear K0 K2
      have hq := HEQ.out
      rw [hq, hA]
      clear hA hq
      clear HU HEQ
      go_wp2
      go_loopw [4] (fun i wr => ∃ k : Nat, k ≤ 2 ∧ i = .int .i64 k ∧ Kp [] w1 wr) (fun i _ => (2 - intOf i).toNat)
      case atStart => exact ⟨0, by omega, rfl, KZ.out⟩
      case round =>
        obtain ⟨k, hk, rfl, kr⟩ := hrel
        have KR : Hid (Kp [] w1 wr) := kr
        obtain ⟨d0, d1, d2⟩ := HCell.out _ kr
        clear kr KZ
        rcases (show k = 0 ∨ k = 1 ∨ k = 2 by omega) with rfl | rfl | rfl
        · simp only [Int.ofNat_zero, Int.cast_ofNat_Int]
          go_wp2_with fail
          refine (HW.out wr false).mono ?_
          rintro e w3 ⟨rfl, hw⟩
          have hw2 := hw.symm
          clear hw
          subst hw2
          have HXb := HX.out wr false
          simp only [lex, beq_self_eq_true, if_true] at HXb
          generalize raw s false = R at HXb ⊢
          go_wp2_with fail
          refine HXb.mono ?_
          rintro e w3 ⟨rfl, k3⟩
          have KE : Hid (Kp [] w1 w3) := kt KR.out k3
          clear k3
          go_wp2
          go_roundw
          case rel => exact ⟨1, by omega, by go_num, KE.out⟩
          case measure => simp [intOf]
        · simp only [Int.cast_ofNat_Int]
          go_wp2_with fail
          refine (HW.out wr true).mono ?_
          rintro e w3 ⟨rfl, hw⟩
          have hw2 := hw.symm
          clear hw
          subst hw2
          have HXb := HX.out wr true
          simp only [lex, beq_self_eq_true, if_true] at HXb
          generalize raw s true = R at HXb ⊢
          go_wp2_with fail
          refine HXb.mono ?_
          rintro e w3 ⟨rfl, k3⟩
          have KE : Hid (Kp [] w1 w3) := kt KR.out k3
          clear k3
          go_wp2
          go_roundw
          case rel => exact ⟨2, by omega, by go_num, KE.out⟩
          case measure => simp [intOf]
        · simp only [Int.cast_ofNat_Int]
          go_wp2_with fail
          refine (HG.out wr KR.out).mono ?_
          rintro e w3 ⟨rfl, k3⟩
          have KE : Hid (Kp [] w w3) := kt (kt K1.out KR.out) k3
          clear k3
          go_wp2
          go_ret
          exact ⟨by simp, KE.out⟩
    · rw [h3] at hA
      simp only [beq_self_eq_true, Bool.true_or, Bool.not_true, Bool.false_and, Bool.and_false, Bool.true_and] at hA
      subst hA
      go_quiet (fail)
      have KZ : Hid (Kp [] w1 (w1.drewN nq)) := (Kp.refl _ _).drewN nq
      generalize w1.drewN nq = v1 at KZ
      clear HU HEQ
      go_wp2
      go_loopw [4] (fun i wr => ∃ k : Nat, k ≤ 2 ∧ i = .int .i64 k ∧ Kp [] w1 wr) (fun i _ => (2 - intOf i).toNat)
      case atStart => exact ⟨0, by omega, rfl, KZ.out⟩
      case round =>
        obtain ⟨k, hk, rfl, kr⟩ := hrel
        have KR : Hid (Kp [] w1 wr) := kr
        obtain ⟨d0, d1, d2⟩ := HCell.out _ kr
        clear kr KZ
        rcases (show k = 0 ∨ k = 1 ∨ k = 2 by omega) with rfl | rfl | rfl
        · simp only [Int.ofNat_zero, Int.cast_ofNat_Int]
          go_wp2_with fail
          refine (HW.out wr false).mono ?_
          rintro e w3 ⟨rfl, hw⟩
          have hw2 := hw.symm
          clear hw
          subst hw2
          have HXb := HX.out wr false
          simp only [lex, beq_self_eq_true, if_true] at HXb
          generalize raw s false = R at HXb ⊢
          go_wp2_with fail
          refine HXb.mono ?_
          rintro e w3 ⟨rfl, k3⟩
          have KE : Hid (Kp [] w1 w3) := kt KR.out k3
          clear k3
          go_wp2
          go_roundw
          case rel => exact ⟨1, by omega, by go_num, KE.out⟩
          case measure => simp [intOf]
        · simp only [Int.cast_ofNat_Int]
          go_wp2_with fail
          refine (HW.out wr true).mono ?_
          rintro e w3 ⟨rfl, hw⟩
          have hw2 := hw.symm
          clear hw
          subst hw2
          have HXb := HX.out wr true
          simp only [lex, beq_self_eq_true, if_true] at HXb
          generalize raw s true = R at HXb ⊢
          go_wp2_with fail
          refine HXb.mono ?_
          rintro e w3 ⟨rfl, k3⟩
          have KE : Hid (Kp [] w1 w3) := kt KR.out k3
          clear k3
          go_wp2
          go_roundw
          case rel => exact ⟨2, by omega, by go_num, KE.out⟩
          case measure => simp [intOf]
        · simp only [Int.cast_ofNat_Int]
          go_wp2_with fail
          refine (HG.out wr KR.out).mono ?_
          rintro e w3 ⟨rfl, k3⟩
          have KE : Hid (Kp [] w w3) := kt (kt K1.out KR.out) k3
          clear k3
          go_wp2
          go_ret
          exact ⟨by simp, KE.out⟩
  · cases h3 : (s.toList == [])
    · rw [h3] at hA
      simp only [beq_self_eq_true, Bool.or_true, Bool.not_false, Bool.true_and] at hA
      go_region_held3 (fun V => V.cell? ⟨w.heap.size, 0, none⟩ = some (.int .i64 2) ∧ V.cell? ⟨w.heap.size, 1, none⟩ = some (.string s) ∧ V.cell? ⟨w.heap.size, 2, none⟩ = some (.slice ao l.length c))
        (first | exact HCell.out _ S1.out | exact HCell.out _ (Kp.refl [] w1).drew)
        (first | (go_at_call 17; refine (HU.out _ (Kp.refl [] w1).drew).mono ?_; rintro e v1 ⟨a2, n2, c2, rfl, rfl, kk⟩; have S1 : Hid (Kp [] w1 v1) := kt (Kp.refl [] w1).drew kk; clear kk))
      have KZ : Hid (Kp [] w1 v1) := S1.out
      have hq := HEQ.out
      rw [hq, hA]
      clear hA hq S1
      clear HU HEQ
      go_wp2
      go_loopw [4] (fun i wr => ∃ k : Nat, k ≤ 2 ∧ i = .int .i64 k ∧ Kp [] w1 wr) (fun i _ => (2 - intOf i).toNat)
      case atStart => exact ⟨0, by omega, rfl, KZ.out⟩
      case round =>
        obtain ⟨k, hk, rfl, kr⟩ := hrel
        have KR : Hid (Kp [] w1 wr) := kr
        obtain ⟨d0, d1, d2⟩ := HCell.out _ kr
        clear kr KZ
        rcases (show k = 0 ∨ k = 1 ∨ k = 2 by omega) with rfl | rfl | rfl
        · simp only [Int.ofNat_zero, Int.cast_ofNat_Int]
          have HXb := HX.out wr false
          simp only [lex, show ((2 : Int) == 1) = false from rfl, Bool.false_eq_true, if_false] at HXb
          go_wp2_with fail
          refine HXb.mono ?_
          rintro e w3 ⟨rfl, k3⟩
          have KE : Hid (Kp [] w1 w3) := kt KR.out k3
          clear k3
          go_wp2
          go_roundw
          case rel => exact ⟨1, by omega, by go_num, KE.out⟩
          case measure => simp [intOf]
        · simp only [Int.cast_ofNat_Int]
          have HXb := HX.out wr true
          simp only [lex, show ((2 : Int) == 1) = false from rfl, Bool.false_eq_true, if_false] at HXb
          go_wp2_with fail
          refine HXb.mono ?_
          rintro e w3 ⟨rfl, k3⟩
          have KE : Hid (Kp [] w1 w3) := kt KR.out k3
          clear k3
          go_wp2
          go_roundw
          case rel => exact ⟨2, by omega, by go_num, KE.out⟩
          case measure => simp [intOf]
        · simp only [Int.cast_ofNat_Int]
          go_wp2_with fail
          refine (HG.out wr KR.out).mono ?_
          rintro e w3 ⟨rfl, k3⟩
          have KE : Hid (Kp [] w w3) := kt (kt K1.out KR.out) k3
          clear k3
          go_wp2
          go_ret
          exact ⟨by simp, KE.out⟩
    · rw [h3] at hA
      simp only [beq_self_eq_true, Bool.or_true, Bool.not_true, Bool.false_and, Bool.and_false, Bool.true_and] at hA
      subst hA
      go_quiet (fail)
      have KZ : Hid (Kp [] w1 (w1.drewN nq)) := (Kp.refl _ _).drewN nq
      generalize w1.drewN nq = v1 at KZ
      clear HU HEQ
      go_wp2
      go_loopw [4] (fun i wr => ∃ k : Nat, k ≤ 2 ∧ i = .int .i64 k ∧ Kp [] w1 wr) (fun i _ => (2 - intOf i).toNat)
      case atStart => exact ⟨0, by omega, rfl, KZ.out⟩
      case round =>
        obtain ⟨k, hk, rfl, kr⟩ := hrel
        have KR : Hid (Kp [] w1 wr) := kr
        obtain ⟨d0, d1, d2⟩ := HCell.out _ kr
        clear kr KZ
        rcases (show k = 0 ∨ k = 1 ∨ k = 2 by omega) with rfl | rfl | rfl
        · simp only [Int.ofNat_zero, Int.cast_ofNat_Int]
          have HXb := HX.out wr false
          simp only [lex, show ((2 : Int) == 1) = false from rfl, Bool.false_eq_true, if_false] at HXb
          go_wp2_with fail
          refine HXb.mono ?_
          rintro e w3 ⟨rfl, k3⟩
          have KE : Hid (Kp [] w1 w3) := kt KR.out k3
          clear k3
          go_wp2
          go_roundw
          case rel => exact ⟨1, by omega, by go_num, KE.out⟩
          case measure => simp [intOf]
        · simp only [Int.cast_ofNat_Int]
          have HXb := HX.out wr true
          simp only [lex, show ((2 : Int) == 1) = false from rfl, Bool.false_eq_true, if_false] at HXb
          go_wp2_with fail
          refine HXb.mono ?_
          rintro e w3 ⟨rfl, k3⟩
          have KE : Hid (Kp [] w1 w3) := kt KR.out k3
          clear k3
          go_wp2
          go_roundw
          case rel => exact ⟨2, by omega, by go_num, KE.out⟩
          case measure => simp [intOf]
        · simp only [Int.cast_ofNat_Int]
          go_wp2_with fail
          refine (HG.out wr KR.out).mono ?_
          rintro e w3 ⟨rfl, k3⟩
          have KE : Hid (Kp [] w w3) := kt (kt K1.out KR.out) k3
          clear k3
          go_wp2
          go_ret
          exact ⟨by simp, KE.out⟩
  · rw [g1, g2] at hA
    simp only [Bool.or_self, Bool.false_and] at hA
    subst hA
    go_quiet (fail)
    have KZ : Hid (Kp [] w1 (w1.drewN nq)) := (Kp.refl _ _).drewN nq
    generalize w1.drewN nq = v1 at KZ
    rcases h1 with h1 | h1
    · have hge : decide (ns ≥ 1) = false := by simp; omega
      clear HU HEQ
      go_wp2
      go_loopw [4] (fun i wr => ∃ k : Nat, k ≤ 2 ∧ i = .int .i64 k ∧ Kp [] w1 wr) (fun i _ => (2 - intOf i).toNat)
      case atStart => exact ⟨0, by omega, rfl, KZ.out⟩
      case round =>
        obtain ⟨k, hk, rfl, kr⟩ := hrel
        have KR : Hid (Kp [] w1 wr) := kr
        obtain ⟨d0, d1, d2⟩ := HCell.out _ kr
        clear kr KZ
        rcases (show k = 0 ∨ k = 1 ∨ k = 2 by omega) with rfl | rfl | rfl
        · simp only [Int.ofNat_zero, Int.cast_ofNat_Int]
          go_wp2
          go_roundw
          case rel => exact ⟨1, by omega, by go_num, KR.out⟩
          case measure => simp [intOf]
        · simp only [Int.cast_ofNat_Int]
          go_wp2
          go_roundw
          case rel => exact ⟨2, by omega, by go_num, KR.out⟩
          case measure => simp [intOf]
        · simp only [Int.cast_ofNat_Int]
          go_wp2_with fail
          refine (HG.out wr KR.out).mono ?_
          rintro e w3 ⟨rfl, k3⟩
          have KE : Hid (Kp [] w w3) := kt (kt K1.out KR.out) k3
          clear k3
          go_wp2
          go_ret
          exact ⟨by simp, KE.out⟩
    · have hge : decide (ns ≥ 1) = true := by simp; omega
      have hle : decide (ns ≤ 2) = false := by simp; omega
      clear HU HEQ
      go_wp2
      go_loopw [4] (fun i wr => ∃ k : Nat, k ≤ 2 ∧ i = .int .i64 k ∧ Kp [] w1 wr) (fun i _ => (2 - intOf i).toNat)
      case atStart => exact ⟨0, by omega, rfl, KZ.out⟩
      case round =>
        obtain ⟨k, hk, rfl, kr⟩ := hrel
        have KR : Hid (Kp [] w1 wr) := kr
        obtain ⟨d0, d1, d2⟩ := HCell.out _ kr
        clear kr KZ
        rcases (show k = 0 ∨ k = 1 ∨ k = 2 by omega) with rfl | rfl | rfl
        · simp only [Int.ofNat_zero, Int.cast_ofNat_Int]
          go_wp2
          go_roundw
          case rel => exact ⟨1, by omega, by go_num, KR.out⟩
          case measure => simp [intOf]
        · simp only [Int.cast_ofNat_Int]
          go_wp2
          go_roundw
          case rel => exact ⟨2, by omega, by go_num, KR.out⟩
          case measure => simp [intOf]
        · simp only [Int.cast_ofNat_Int]
          go_wp2_with fail
          refine (HG.out wr KR.out).mono ?_
          rintro e w3 ⟨rfl, k3⟩
          have KE : Hid (Kp [] w w3) := kt (kt K1.out KR.out) k3
          clear k3
          go_wp2
          go_ret
          exact ⟨by simp, KE.out⟩

end Go.Proofs.Ytfobbgmfbpoigaa
