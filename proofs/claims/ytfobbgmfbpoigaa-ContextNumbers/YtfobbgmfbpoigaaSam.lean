/-
  same of the laws.
-/
import Derived.Test.YtfobbgmfbpoigaaLis
namespace Go.Proofs.Ytfobbgmfbpoigaa.Ints
open Go.RowKit Utf
set_option linter.unusedSimpArgs false
set_option linter.unusedVariables false

theorem cur_one (x : Int × ByteArray) (zs : List It) (h : zs.length = 1) : cur (some x) zs = x := by
  match zs, h with
  | [y], _ => rfl

theorem cur_last (c : Option (Int × ByteArray)) (zs : List It) (h : c = none ∨ 1 < zs.length) (h0 : zs.length - 1 < zs.length) : cur c zs = zs[zs.length - 1].2 := by
  have hv : zs.length - 1 < (vw c zs).length := by rw [vw_len]; exact h0
  unfold cur
  rw [List.getElem?_eq_getElem hv]
  rcases h with rfl | h
  · exact vw_none zs _ hv
  · exact vw_on c zs _ (by omega) hv

theorem lsT_get (F : Nat → Int × Bool) (k i : Nat) (h : i < (lsT F k).length) : (lsT F k)[i] = itm i (F i) := by simp [lsT]

theorem cur_size (c : Option (Int × ByteArray)) (F : Nat → Int × Bool) (k : Nat) (hc : ∀ x, c = some x → x.2.size ≤ 1000) : (cur c (lsT F k)).2.size ≤ 1000000 := by
  rcases Nat.eq_zero_or_pos k with rfl | h0
  · show (cur c []).2.size ≤ _
    rw [cur_nil]
    decide
  · by_cases h1 : c = none ∨ 1 < (lsT F k).length
    · rw [cur_last c _ h1 (by rw [lsT_len]; omega), lsT_get]
      have := nm_size (F ((lsT F k).length - 1)).1
      show (nm _).size ≤ _
      omega
    · cases c with
      | none => exact absurd (Or.inl rfl) h1
      | some x =>
        rw [cur_one x _ (by rw [lsT_len] at *; omega)]
        have := hc x rfl
        omega

set_option maxRecDepth 100000 in
set_option maxHeartbeats 2000000 in
theorem same_any (w : World) (ao : Option Addr) (n d : Nat) (F : Nat → Int × Bool) (co : Option Addr) (c : Option (Int × ByteArray)) (t : Int) (hd : Bool) (hE : Es w ao n d F) (hc : Cp w co c) (hcs : ∀ x, c = some x → x.2.size ≤ 1000) :
    Calls Try.prog 9 #[.slice ao n d, .pointer co, .int .i64 t, .bool hd] w fun e w' => e = .returned (.bool true) ∧ Kp [] w w' := by
  have HL := list_any w ao n d F hE
  have hcz := cur_size c F (min n 20) hcs
  have hlen := lsT_len F (min n 20)
  have hN : min n 20 ≤ 20 := by omega
  generalize lsT F (min n 20) = zs at HL hcz hlen
  generalize min n 20 = N at HL hlen hN
  subst hlen
  clear hE hcs
  go_enter Try.func9, Try.ntmps9
  go_wp2_with fail
  refine HL.mono ?_
  rintro e w1 ⟨q, bo, d1, rfl, L1, R1, k1⟩
  have C1 := hc.kept k1
  have K1 : Hid (Kp [] w w1) := k1
  have HA : Hid (∀ W, Kp [] w1 W → Calls Try.prog 10 #[.pointer (some ⟨q, 0, none⟩), .pointer co] W fun e w' => e = .returned (nv (cur c zs)) ∧ Kp [] W w') := fun W k => adj_all W _ _ _ hcz (current_any w W q zs co c (L1.kept k) (C1.kept k) (by omega))
  have HF : Hid (∀ W, Kp [] w1 W → Calls Try.prog 23 #[.pointer (some ⟨q, 0, none⟩), .pointer co] W fun e w' => e = .returned (.bool ((cur c zs).1 == 2)) ∧ Kp [] W w') := fun W k => foreign_all W _ _ _ (current_any w W q zs co c (L1.kept k) (C1.kept k) (by omega))
  have HR : Hid (∀ W, Kp [] w1 W → Calls Try.prog 21 #[.pointer (some ⟨q, 0, none⟩), .pointer co, .int .i64 t, .bool hd] W fun e w' => e = .returned (.int .i64 (rsK t hd (vw c zs) zs.length)) ∧ Kp [] W w') := fun W k => reset_any w W q zs co c t hd (L1.kept k) (C1.kept k) (by omega)
  have HS : Hid (∀ W, Kp [] w1 W → Calls Try.prog 22 #[.slice bo zs.length d1, .pointer co, .int .i64 t, .bool hd] W fun e w' => e = .returned (.int .i64 (rsK t hd (vw c zs) zs.length)) ∧ Kp [] W w') := fun W k => lreset_any W bo zs.length d1 zs co c t hd (R1.kept k) (C1.kept k) (by omega)
  generalize rsK t hd (vw c zs) zs.length = RS at HR HS
  clear HL k1 L1 hc
  rcases Nat.eq_zero_or_pos zs.length with h0 | h0
  · obtain rfl := List.eq_nil_of_length_eq_zero h0
    rw [cur_nil] at HA HF
    unfold nv at HA
    simp only [List.length_nil, Int.ofNat_zero, Int.cast_ofNat_Int] at *
    clear R1 C1
    go_wp2_with fail
    refine (HA.out _ (Kp.refl _ _)).mono ?_
    rintro e w2 ⟨rfl, k2⟩
    have K2 : Hid (Kp [] w1 w2) := kt (Kp.refl _ _) k2
    clear HA k2
    go_wp2_with fail
    refine (HR.out _ K2.out).mono ?_
    rintro e w3 ⟨rfl, k3⟩
    have K3 : Hid (Kp [] w1 w3) := kt K2.out k3
    clear HR k3 K2
    go_wp2_with fail
    refine (HS.out _ K3.out).mono ?_
    rintro e w4 ⟨rfl, k4⟩
    have K4 : Hid (Kp [] w1 w4) := kt K3.out k4
    clear HS k4 K3
    go_wp2_with fail
    refine (HF.out _ K4.out).mono ?_
    rintro e w5 ⟨rfl, k5⟩
    have K5 : Hid (Kp [] w1 w5) := kt K4.out k5
    clear HF k5 K4
    go_wp2
    go_ret
    exact ⟨by simp, kt K1.out K5.out⟩
  · obtain ⟨b1, o1, rfl, c0, c1, c2, c3⟩ := R1.get (zs.length - 1) (by omega)
    have e1 : ((zs.length - 1 : Nat) : Int) = (zs.length : Int) - 1 := Int.ofNat_sub h0
    have hpos : (0 : Int) < (zs.length : Int) := by omega
    have htn : ((zs.length : Int) - 1).toNat = zs.length - 1 := by omega
    have hdn : Hid (∀ q : Nat, Kp [] w1 (w1.drewN q)) := fun q => (Kp.refl _ _).drewN q
    have hdn2 : Hid (∀ q r : Nat, Kp [] w1 ((w1.drewN q).drewN r)) := fun q r => ((Kp.refl _ _).drewN q).drewN r
    by_cases h1 : c = none ∨ 1 < zs.length
    · have e2 := cur_last c zs h1 (by omega)
      have hx : cur c zs = ((zs[zs.length - 1]'(by omega)).2.1, (zs[zs.length - 1]'(by omega)).2.2) := e2
      generalize (zs[zs.length - 1]'(by omega)) = x at c0 c1 c2 c3 hx
      obtain ⟨hh, ns, s⟩ := x
      simp only at c0 c1 c2 c3 hx
      rw [hx] at HA HF
      unfold nv at HA
      simp only at HA HF
      have hco : ¬ (zs.length : Int) = 1 ∨ ((zs.length : Int) = 1 ∧ co = none) := by
        rcases h1 with rfl | h1
        · rcases C1 with ⟨h2, _⟩ | ⟨_, _, _, _, _, h2, _⟩
          · by_cases h3 : (zs.length : Int) = 1
            · exact Or.inr ⟨h3, h2⟩
            · exact Or.inl h3
          · cases h2
        · exact Or.inl (by omega)
      clear R1 C1 hx e2 h1 hcz
      rcases hco with hq | ⟨hq, rfl⟩
      · have hlt : zs.length - 1 < zs.length := by omega
        generalize hM : zs.length - 1 = M at c0 c1 c2 c3 e1 htn hlt
        have hZ : (0 : Int) ≤ (zs.length : Int) - 1 := by omega
        have hZ2 : (zs.length : Int) - 1 < (zs.length : Int) := by omega
        go_wp2_with fail
        go_quiet (fail)
        go_wp2_with fail
        refine (HA.out _ (hdn.out _)).mono ?_
        rintro e w2 ⟨rfl, k2⟩
        have K2 : Hid (Kp [] w1 w2) := kt (hdn.out _) k2
        clear HA k2
        go_wp2_with fail
        refine (HR.out _ K2.out).mono ?_
        rintro e w3 ⟨rfl, k3⟩
        have K3 : Hid (Kp [] w1 w3) := kt K2.out k3
        clear HR k3 K2
        go_wp2_with fail
        refine (HS.out _ K3.out).mono ?_
        rintro e w4 ⟨rfl, k4⟩
        have K4 : Hid (Kp [] w1 w4) := kt K3.out k4
        clear HS k4 K3
        go_wp2_with fail
        refine (HF.out _ K4.out).mono ?_
        rintro e w5 ⟨rfl, k5⟩
        have K5 : Hid (Kp [] w1 w5) := kt K4.out k5
        clear HF k5 K4
        go_wp2
        go_ret
        exact ⟨by simp, kt K1.out K5.out⟩
      · have hz1 : zs.length = 1 := by omega
        rw [hz1] at HS c0 c1 c2 c3 ⊢
        simp only [Nat.sub_self, Nat.zero_mul, Nat.add_zero] at c0 c1 c2 c3
        clear hz1 hq hpos htn e1 h0 hN
        go_wp2_with fail
        go_quiet (fail)
        go_wp2_with fail
        refine (HA.out _ (hdn.out _)).mono ?_
        rintro e w2 ⟨rfl, k2⟩
        have K2 : Hid (Kp [] w1 w2) := kt (hdn.out _) k2
        clear HA k2
        go_wp2_with fail
        refine (HR.out _ K2.out).mono ?_
        rintro e w3 ⟨rfl, k3⟩
        have K3 : Hid (Kp [] w1 w3) := kt K2.out k3
        clear HR k3 K2
        go_wp2_with fail
        refine (HS.out _ K3.out).mono ?_
        rintro e w4 ⟨rfl, k4⟩
        have K4 : Hid (Kp [] w1 w4) := kt K3.out k4
        clear HS k4 K3
        go_wp2_with fail
        refine (HF.out _ K4.out).mono ?_
        rintro e w5 ⟨rfl, k5⟩
        have K5 : Hid (Kp [] w1 w5) := kt K4.out k5
        clear HF k5 K4
        go_wp2
        go_ret
        exact ⟨by simp, kt K1.out K5.out⟩
    · cases c with
      | none => exact absurd (Or.inl rfl) h1
      | some x =>
        have hq : (zs.length : Int) = 1 := by
          have : ¬ 1 < zs.length := fun h => h1 (Or.inr h)
          omega
        rw [cur_one x zs (by omega)] at HA HF hcz
        rcases C1 with ⟨_, h2⟩ | ⟨b, ns, s, v, rfl, h2, hb⟩
        · cases h2
        simp only [Option.some.injEq] at h2
        subst h2
        have f0 : w1.cell? ⟨b, 0, none⟩ = some (.int .i64 ns) := cell_of hb 0
        have f1 : w1.cell? ⟨b, 1, none⟩ = some (.string s) := cell_of hb 1
        unfold nv at HA
        simp only at HA HF
        generalize (zs[zs.length - 1]'(by omega)) = y at c0 c1 c2 c3
        have hz1 : zs.length = 1 := by omega
        rw [hz1] at HS c0 c1 c2 c3 ⊢
        simp only [Nat.sub_self, Nat.zero_mul, Nat.add_zero] at c0 c1 c2 c3
        clear hz1 hq hpos htn e1 h0 hN h1 R1
        clear hcz hb
        go_wp2_with fail
        go_quiet (fail)
        go_wp2_with fail
        go_quiet (fail)
        go_wp2_with fail
        refine (HA.out _ (hdn.out _)).mono ?_
        rintro e w2 ⟨rfl, k2⟩
        have K2 : Hid (Kp [] w1 w2) := kt (hdn.out _) k2
        clear HA k2
        go_wp2_with fail
        refine (HR.out _ K2.out).mono ?_
        rintro e w3 ⟨rfl, k3⟩
        have K3 : Hid (Kp [] w1 w3) := kt K2.out k3
        clear HR k3 K2
        go_wp2_with fail
        refine (HS.out _ K3.out).mono ?_
        rintro e w4 ⟨rfl, k4⟩
        have K4 : Hid (Kp [] w1 w4) := kt K3.out k4
        clear HS k4 K3
        go_wp2_with fail
        refine (HF.out _ K4.out).mono ?_
        rintro e w5 ⟨rfl, k5⟩
        have K5 : Hid (Kp [] w1 w5) := kt K4.out k5
        clear HF k5 K4
        go_wp2
        go_ret
        exact ⟨by simp, kt K1.out K5.out⟩

end Go.Proofs.Ytfobbgmfbpoigaa.Ints
