/-
  bounds, scope, place of the laws.
-/
import Derived.Test.YtpadnfpifldoaaaRc
namespace Go.Proofs.Ytpadnfpifldoaaa.Ints
open Go.RowKit
set_option linter.unusedSimpArgs false

/-- is, of names that were just laid. -/
theorem lis_lit (w0 w : World) (x : It) (L : List ByteArray) (n : Nat) (cur : Array Value) (k : Kp [] w0 w) (h : cur = (tx L).toArray) (hn : n = L.length) (hm : n ≤ 1000) :
    Calls Try.prog 33 #[iv x, .slice (some ⟨w.heap.size, 0, none⟩) n n] (w.alloc (.cells cur 9)) fun e w' => e = .returned (.bool (isIn L x)) ∧ Kp [] w0 w' := by
  have H := lis_any (w.alloc (.cells cur 9)) x L _ n n (rb_lit w 9 cur _ n h (by rw [tx_len]; exact hn) hm) hm
  exact from_back H (k.alloc _)

set_option maxHeartbeats 2000000 in
theorem lbounds_any (w : World) (x : It) (k : Int) (hk : 1 ≤ k ∧ k ≤ 4) : Calls Try.prog 50 #[iv x, .int .i64 k] w fun e w' => e = .returned (.bool (bnd k x)) ∧ Kp [] w w' := by
  have k1 : Kp [] w (w.alloc (.cells (ic x) 36)) := (Kp.refl _ _).alloc _
  have hb : Bx (w.alloc (.cells (ic x) 36)) (some ⟨w.heap.size, 0, none⟩) x := ⟨_, rfl, heap_new _ _⟩
  have H := ref_bound_any (w.alloc (.cells (ic x) 36)) x.2.1 x.2.2
  have HC : Hid (∀ W, Kp [] (w.alloc (.cells (ic x) 36)) W → Kp [] w W ∧ Bx W (some ⟨w.heap.size, 0, none⟩) x) := fun W k => ⟨k1.trans k (fun y hy => by simp at hy), hb.kept k⟩
  have c9 := (HC.out _ (Kp.refl _ _)).2
  have HI : Hid (∀ W L n cur, Kp [] w W → cur = (tx L).toArray → n = L.length → n ≤ 1000 → Calls Try.prog 33 #[iv x, .slice (some ⟨W.heap.size, 0, none⟩) n n] (W.alloc (.cells cur 9)) fun e w' => e = .returned (.bool (isIn L x)) ∧ Kp [] w w') := fun W L n cur k h1 h2 h3 => lis_lit w W x L n cur k h1 h2 h3
  obtain ⟨A, hA⟩ : ∃ A, bnd k x = A := ⟨_, rfl⟩
  rw [hA]
  unfold bnd at hA
  generalize bound x.2.1 x.2.2 = B at H hA
  generalize hI1 : isIn OLUL x = I1 at hA
  generalize hI2 : isIn BUT x = I2 at hA
  generalize hI3 : isIn TAB x = I3 at hA
  have J1 := HI.out
  obtain ⟨h, ns, nm⟩ := x
  obtain ⟨g, hg, c0, c1, c2, c3⟩ := c9.out
  simp only [Option.some.injEq, Addr.mk.injEq, and_true] at hg
  subst hg
  simp only [ic, iv] at *
  have HJ : Hid _ := J1
  clear k1 hb c9 J1 HI
  rcases (show k = 1 ∨ k = 2 ∨ k = 3 ∨ k = 4 by omega) with rfl | rfl | rfl | rfl
  · simp only [show ¬ ((1 : Int) = 2) by decide, show ¬ ((1 : Int) = 3) by decide, show ¬ ((1 : Int) = 4) by decide, if_false] at hA
    subst hA
    go_enter Try.func50, Try.ntmps50
    go_wp2_with fail
    refine H.mono ?_
    rintro e w2 ⟨rfl, k2⟩
    have R := (HC.out w2 k2).1
    clear HC HJ k2 H
    go_wp2
    go_ret
    exact ⟨rfl, R⟩
  · simp only [if_true] at hA
    go_enter Try.func50, Try.ntmps50
    go_wp2_with fail
    refine H.mono ?_
    rintro e w2 ⟨rfl, k2⟩
    obtain ⟨R, hb2⟩ := HC.out w2 k2
    obtain ⟨g, hg, c0, c1, c2, c3⟩ := hb2.out
    simp only [Option.some.injEq, Addr.mk.injEq, and_true] at hg
    subst hg
    have R2 : Hid (Kp [] w w2) := R
    clear HC k2 hb2 H R
    cases B
    · rw [Bool.false_or] at hA
      subst hA
      go_wp2_with fail
      refine (HJ.out w2 OLUL 2 _ R2.out (by kernel_rfl) (by kernel_rfl) (by omega)).mono ?_
      rintro e w3 ⟨rfl, k3⟩
      rw [hI1]
      go_wp2
      go_ret
      exact ⟨rfl, k3⟩
    · rw [Bool.true_or] at hA
      subst hA
      go_wp2
      go_ret
      exact ⟨rfl, R2.out⟩
  · simp only [show ¬ ((3 : Int) = 2) by decide, if_false, if_true] at hA
    go_enter Try.func50, Try.ntmps50
    go_wp2_with fail
    refine H.mono ?_
    rintro e w2 ⟨rfl, k2⟩
    obtain ⟨R, hb2⟩ := HC.out w2 k2
    obtain ⟨g, hg, c0, c1, c2, c3⟩ := hb2.out
    simp only [Option.some.injEq, Addr.mk.injEq, and_true] at hg
    subst hg
    have R2 : Hid (Kp [] w w2) := R
    clear HC k2 hb2 H R
    cases B
    · rw [Bool.false_or] at hA
      subst hA
      go_wp2_with fail
      refine (HJ.out w2 BUT 1 _ R2.out (by kernel_rfl) (by kernel_rfl) (by omega)).mono ?_
      rintro e w3 ⟨rfl, k3⟩
      rw [hI2]
      go_wp2
      go_ret
      exact ⟨rfl, k3⟩
    · rw [Bool.true_or] at hA
      subst hA
      go_wp2
      go_ret
      exact ⟨rfl, R2.out⟩
  · simp only [show ¬ ((4 : Int) = 2) by decide, show ¬ ((4 : Int) = 3) by decide, if_false, if_true] at hA
    subst hA
    have K1 : Hid _ := (HC.out _ (Kp.refl _ _)).1
    have H4 := HJ.out (w.alloc (.cells #[.int .i64 h, .int .i64 ns, .string nm, .slice none 0 0] 36)) TAB 3 #[.string ⟨#[104, 116, 109, 108]⟩, .string ⟨#[116, 97, 98, 108, 101]⟩, .string ⟨#[116, 101, 109, 112, 108, 97, 116, 101]⟩] K1.out (by kernel_rfl) (by kernel_rfl) (by omega)
    rw [show (w.alloc (.cells #[.int .i64 h, .int .i64 ns, .string nm, .slice none 0 0] 36)).heap.size = w.heap.size + 1 by simp] at H4
    clear HC H HJ
    go_enter Try.func50, Try.ntmps50
    go_wp2_with fail
    refine H4.mono ?_
    rintro e w3 ⟨rfl, k3⟩
    rw [hI3]
    go_wp2
    go_ret
    exact ⟨rfl, k3⟩

set_option maxHeartbeats 1000000 in
theorem lplace_any (w : World) (zs : List It) (h : Int) (ao : Option Addr) (n c : Nat) (hr : Rs w ao n c zs) (hl : n < 100000) :
    Calls Try.prog 35 #[.slice ao n c, .int .i64 h] w fun e w' => e = .returned (.int .i64 (plc (eqh h) zs)) ∧ w' = w := by
  obtain rfl : n = zs.length := hr.len
  obtain ⟨A, hA⟩ : ∃ A, plcR (eqh h) (zs.take zs.length).reverse = A := ⟨_, rfl⟩
  rw [show plc (eqh h) zs = A by rw [← hA, rev_all]; rfl]
  go_enter Try.func35, Try.ntmps35
  go_wp2
  go_loopw [5] (fun i wr => ∃ k : Nat, k ≤ zs.length ∧ i = .int .i64 ((k : Int) - 1) ∧ wr = w ∧ plcR (eqh h) (zs.take k).reverse = A) (fun i _ => (intOf i + 1).toNat)
  case atStart => exact ⟨zs.length, Nat.le_refl _, rfl, rfl, hA⟩
  case round =>
    obtain ⟨k, hk, rfl, rfl, hp⟩ := hrel
    clear hA
    rcases k with _ | j
    · simp only [List.take_zero, List.reverse_nil, plcR] at hp
      subst hp
      clear hr
      go_wp2
      go_ret
      exact ⟨rfl, rfl⟩
    · obtain ⟨b, off, rfl, c0, c1, c2, c3⟩ := hr.get j (by omega)
      rw [rev_take zs j (by omega)] at hp
      have hlj : ((zs.take j).reverse.length : Int) = j := by simp; omega
      have hj2 : j < zs.length := by omega
      generalize zs[j] = x at c0 c1 c2 c3 hp
      obtain ⟨hh, ns, nm⟩ := x
      unfold plcR at hp
      rw [hlj] at hp
      simp only at hp c0
      clear hr c1 c2 c3 hlj
      rw [show (((j + 1 : Nat) : Int) - 1) = (j : Int) by omega]
      by_cases hq : hh = h
      · rw [eqh, decide_eq_true hq, if_pos rfl] at hp
        subst hp
        go_wp2
        go_ret
        exact ⟨rfl, rfl⟩
      · rw [eqh, decide_eq_false hq, if_neg (by simp)] at hp
        go_wp2
        go_roundw
        case rel => exact ⟨j, by omega, by go_num, by first | rfl | trivial, hp⟩
        case measure => simp [intOf]

set_option maxHeartbeats 1000000 in
theorem lscope_any (w : World) (zs : List It) (k : Int) (L : List ByteArray) (bo : Option Addr) (m d : Nat) (ao : Option Addr) (n c : Nat) (hz : Rs w bo m d zs) (hR : Rb w ao n c (tx L)) (hn : n ≤ 1000) (hl : m < 100000) :
    Calls Try.prog 16 #[.slice bo m d, .int .i64 k, .slice ao n c] w fun e w' => e = .returned (.bool (scp k L zs)) ∧ Kp [] w w' := by
  obtain rfl : m = zs.length := hz.len
  by_cases hk : 1 ≤ k ∧ k ≤ 4
  · obtain ⟨A, hA⟩ : ∃ A, scpR k L (zs.take zs.length).reverse = A := ⟨_, rfl⟩
    rw [show scp k L zs = A by rw [scp, if_pos hk, ← hA, rev_all]]
    have hk1 : ¬ k < 1 := by omega
    have hk2 : ¬ 4 < k := by omega
    have HH : Hid (1 ≤ k ∧ k ≤ 4) := hk
    clear hk
    go_enter Try.func16, Try.ntmps16
    go_wp2
    go_loopw [7] (fun i wr => ∃ j : Nat, j ≤ zs.length ∧ i = .int .i64 ((j : Int) - 1) ∧ Kp [] w wr ∧ scpR k L (zs.take j).reverse = A) (fun i _ => (intOf i + 1).toNat)
    case atStart => exact ⟨zs.length, Nat.le_refl _, rfl, Kp.refl _ _, hA⟩
    case round =>
      obtain ⟨j, hj, rfl, kr, hp⟩ := hrel
      have KR : Hid (Kp [] w wr) := kr
      clear hA
      rcases j with _ | j
      · simp only [List.take_zero, List.reverse_nil, scpR] at hp
        subst hp
        clear hz hR kr
        go_wp2
        go_ret
        exact ⟨rfl, KR.out⟩
      · obtain ⟨b, off, rfl, c0, c1, c2, c3⟩ := (hz.kept kr).get j (by omega)
        have HI : Hid (∀ x, Calls Try.prog 33 #[iv x, .slice ao n c] wr fun e w' => e = .returned (.bool (isIn L x)) ∧ Kp [] wr w') := fun x => lis_any wr x L ao n c (hR.kept kr) hn
        have HG : Hid (∀ W, Kp [] wr W → _) := fun W k => (hz.kept (kr.trans k (fun y hy => by simp at hy))).get j (by omega)
        rw [rev_take zs j (by omega)] at hp
        have hj2 : j < zs.length := by omega
        generalize zs[j] = x at c0 c1 c2 c3 hp HG
        have HI := HI.out x
        have HB : Hid (∀ W, Kp [] wr W → Calls Try.prog 50 #[iv x, .int .i64 k] W fun e w' => e = .returned (.bool (bnd k x)) ∧ Kp [] w w') := fun W kW => from_back (lbounds_any W x k HH.out) (KR.out.trans kW (fun y hy => by simp at hy))
        unfold scpR at hp
        generalize isIn L x = I at HI hp
        generalize bnd k x = B at HB hp
        obtain ⟨hh, ns, nm⟩ := x
        unfold iv at HI HB
        simp only at c0 c1 c2 c3 HG HI HB
        clear hz hR kr
        rw [show (((j + 1 : Nat) : Int) - 1) = (j : Int) by omega]
        cases I
        · simp only [Bool.false_eq_true, if_false] at hp
          go_wp2_with fail
          refine HI.mono ?_
          rintro e w2 ⟨rfl, k2⟩
          obtain ⟨b', off', hbo, d0, d1, d2, d3⟩ := HG.out w2 k2
          simp only [Option.some.injEq, Addr.mk.injEq, and_true] at hbo
          obtain ⟨rfl, rfl⟩ := hbo
          have HB2 := HB.out w2 k2
          clear HB HG HI k2 c0 c1 c2 c3
          go_wp2_with fail
          refine HB2.mono ?_
          rintro e w3 ⟨rfl, k3⟩
          have K3 : Hid (Kp [] w w3) := k3
          clear HB2 d0 d1 d2 d3 k3 KR
          cases B
          · simp only [Bool.false_eq_true, if_false] at hp
            go_wp2
            go_roundw
            case rel => exact ⟨j, by omega, by go_num, K3.out, hp⟩
            case measure => simp [intOf]
          · simp only [if_true] at hp
            subst hp
            go_wp2
            go_ret
            exact ⟨rfl, K3.out⟩
        · simp only [if_true] at hp
          subst hp
          clear HG HB
          go_wp2_with fail
          refine HI.mono ?_
          rintro e w2 ⟨rfl, k2⟩
          have K2 := KR.out.trans k2 (fun y hy => by simp at hy)
          clear HI k2
          go_wp2
          go_ret
          exact ⟨rfl, K2⟩
  · rw [show scp k L zs = false by rw [scp, if_neg hk]]
    clear hz hR
    by_cases hk1 : k < 1
    · clear hk
      go_enter Try.func16, Try.ntmps16
      go_wp2
      go_ret
      exact ⟨rfl, Kp.refl _ _⟩
    · have hk2 : 4 < k := by omega
      clear hk
      go_enter Try.func16, Try.ntmps16
      go_wp2
      go_ret
      exact ⟨rfl, Kp.refl _ _⟩

end Go.Proofs.Ytpadnfpifldoaaa.Ints
