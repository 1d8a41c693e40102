/-
  place, behind, from and clear0 of the laws.
-/
import Derived.Test.YtadcpkdnpfmphaaRa
namespace Go.Proofs.Ytadcpkdnpfmphaa.Ints
open Go.RowKit
set_option linter.unusedSimpArgs false
set_option linter.unusedVariables false

set_option maxHeartbeats 1000000 in
theorem lplace_any (w : World) (rl : List Raw) (zs : List Ent) (h : Int) (ao : Option Addr) (n c : Nat) (hr : Ls w ao n c rl zs) (hl : n < 100000) :
    Calls Try.prog 25 #[.slice ao n c, .int .i64 h] w fun e w' => e = .returned (.int .i64 (plc2 h zs)) ∧ w' = w := by
  obtain rfl : n = zs.length := hr.len
  obtain ⟨A, hA⟩ : ∃ A, plcR h (zs.take zs.length).reverse = A := ⟨_, rfl⟩
  rw [show plc2 h zs = A by rw [← hA, rev_all]; rfl]
  go_enter Try.func25, Try.ntmps25
  go_wp2
  go_loopw [5] (fun i wr => ∃ k : Nat, k ≤ zs.length ∧ i = .int .i64 ((k : Int) - 1) ∧ wr = w ∧ plcR h (zs.take k).reverse = A) (fun i _ => (intOf i + 1).toNat)
  case atStart => exact ⟨zs.length, Nat.le_refl _, rfl, rfl, hA⟩
  case round =>
    obtain ⟨k, hk, rfl, rfl, hp⟩ := hrel
    clear hA
    rcases k with _ | j
    · simp only [List.take_zero, List.reverse_nil, plcR] at hp
      subst hp
      clear hr
      go_wp2
      go_ret
      exact ⟨rfl, rfl⟩
    · obtain ⟨b, off, xo, xn, xc, rfl, c0, c1, c2, c3, _, _, _⟩ := hr.get j (by omega)
      rw [rev_take zs j (by omega)] at hp
      have hlj : ((zs.take j).reverse.length : Int) = j := by simp; omega
      have hj2 : j < zs.length := by omega
      generalize zs[j] = x at c0 c1 c2 c3 hp
      obtain ⟨m, hh, nm, l⟩ := x
      unfold plcR at hp
      rw [hlj] at hp
      simp only at hp c0 c1
      clear hr c2 c3 hlj
      rw [show (((j + 1 : Nat) : Int) - 1) = (j : Int) by omega]
      cases m
      · by_cases hq : hh = h
        · rw [decide_eq_true hq] at hp
          simp only [Bool.not_false, Bool.and_self, if_true] at hp
          subst hp
          go_wp2
          go_ret
          exact ⟨rfl, rfl⟩
        · rw [decide_eq_false hq] at hp
          simp only [Bool.not_false, Bool.and_false, Bool.false_eq_true, if_false] at hp
          go_wp2
          go_roundw
          case rel => exact ⟨j, by omega, by go_num, by first | rfl | trivial, hp⟩
          case measure => simp [intOf]
      · simp only [Bool.not_true, Bool.false_and, Bool.false_eq_true, if_false] at hp
        go_wp2
        go_roundw
        case rel => exact ⟨j, by omega, by go_num, by first | rfl | trivial, hp⟩
        case measure => simp [intOf]

set_option maxHeartbeats 1000000 in
theorem lbehind_any (w : World) (rl : List Raw) (zs : List Ent) (ao : Option Addr) (n c : Nat) (hr : Ls w ao n c rl zs) (hl : n < 100000) :
    Calls Try.prog 28 #[.slice ao n c] w fun e w' => e = .returned (.int .i64 (beh zs : Nat)) ∧ w' = w := by
  obtain rfl : n = zs.length := hr.len
  obtain ⟨A, hA⟩ : ∃ A, behR (zs.take zs.length).reverse = A := ⟨_, rfl⟩
  rw [show beh zs = A by rw [← hA, rev_all]; rfl]
  go_enter Try.func28, Try.ntmps28
  go_wp2
  go_loopw [3] (fun i wr => ∃ k : Nat, k ≤ zs.length ∧ i = .int .i64 ((k : Int) - 1) ∧ wr = w ∧ behR (zs.take k).reverse = A) (fun i _ => (intOf i + 1).toNat)
  case atStart => exact ⟨zs.length, Nat.le_refl _, rfl, rfl, hA⟩
  case round =>
    obtain ⟨k, hk, rfl, rfl, hp⟩ := hrel
    clear hA
    rcases k with _ | j
    · simp only [List.take_zero, List.reverse_nil, behR] at hp
      subst hp
      clear hr
      go_wp2
      go_ret
      exact ⟨rfl, rfl⟩
    · obtain ⟨b, off, xo, xn, xc, rfl, c0, c1, c2, c3, _, _, _⟩ := hr.get j (by omega)
      rw [rev_take zs j (by omega)] at hp
      have hlj : (zs.take j).reverse.length = j := by simp; omega
      have hj2 : j < zs.length := by omega
      generalize zs[j] = x at c0 c1 c2 c3 hp
      obtain ⟨m, hh, nm, l⟩ := x
      unfold behR at hp
      rw [hlj] at hp
      simp only at hp c0
      clear hr c1 c2 c3 hlj
      rw [show (((j + 1 : Nat) : Int) - 1) = (j : Int) by omega]
      cases m
      · simp only [Bool.false_eq_true, if_false] at hp
        go_wp2
        go_roundw
        case rel => exact ⟨j, by omega, by go_num, by first | rfl | trivial, hp⟩
        case measure => simp [intOf]
      · simp only [if_true] at hp
        subst hp
        have hjw : IntKind.i64.wrap ((j : Int) + 1) = ((j + 1 : Nat) : Int) := by rw [IntKind.wrap_i64]; omega
        go_wp2
        go_ret
        exact ⟨rfl, rfl⟩

set_option maxHeartbeats 1000000 in
theorem lfrom_any (w : World) (rl : List Raw) (zs : List Ent) (below : Int) (ao : Option Addr) (n c : Nat) (hr : Ls w ao n c rl zs) (hl : n < 100000) :
    Calls Try.prog 33 #[.slice ao n c, .int .i64 below] w fun e w' => e = .returned (.int .i64 (frm (fun h => decide (h < below)) zs : Nat)) ∧ w' = w := by
  obtain rfl : n = zs.length := hr.len
  obtain ⟨A, hA⟩ : ∃ A, frmR (fun h => decide (h < below)) (zs.take zs.length).reverse = A := ⟨_, rfl⟩
  rw [show frm (fun h => decide (h < below)) zs = A by rw [← hA, rev_all]; rfl]
  go_enter Try.func33, Try.ntmps33
  go_wp2
  go_loopw [5] (fun i wr => ∃ k : Nat, k ≤ zs.length ∧ i = .int .i64 (k : Int) ∧ wr = w ∧ frmR (fun h => decide (h < below)) (zs.take k).reverse = A) (fun i _ => (intOf i).toNat)
  case atStart => exact ⟨zs.length, Nat.le_refl _, rfl, rfl, hA⟩
  case round =>
    obtain ⟨k, hk, rfl, rfl, hp⟩ := hrel
    clear hA
    rcases k with _ | j
    · simp only [List.take_zero, List.reverse_nil, frmR] at hp
      subst hp
      clear hr
      go_wp2
      go_ret
      exact ⟨rfl, rfl⟩
    · obtain ⟨b, off, xo, xn, xc, rfl, c0, c1, c2, c3, _, _, _⟩ := hr.get j (by omega)
      rw [rev_take zs j (by omega)] at hp
      have hlj : (zs.take j).reverse.length = j := by simp; omega
      have hj2 : j < zs.length := by omega
      generalize zs[j] = x at c0 c1 c2 c3 hp
      obtain ⟨m, hh, nm, l⟩ := x
      unfold frmR at hp
      rw [hlj] at hp
      simp only at hp c0 c1
      clear hr c2 c3 hlj
      have hjj : ((j + 1 : Nat) : Int) - 1 = (j : Int) := by omega
      have hjw : IntKind.i64.wrap ((j : Int) + 1 - 1) = (j : Int) := by rw [IntKind.wrap_i64]; omega
      cases m
      · rw [Bool.false_or] at hp
        by_cases hq : hh < below
        · rw [decide_eq_true hq] at hp
          simp only [if_true] at hp
          subst hp
          have hq2 : decide (below ≤ hh) = false := decide_eq_false (by omega)
          go_wp2
          go_ret
          exact ⟨rfl, rfl⟩
        · rw [decide_eq_false hq] at hp
          simp only [Bool.false_eq_true, if_false] at hp
          have hq2 : decide (below ≤ hh) = true := decide_eq_true (by omega)
          go_wp2
          go_roundw
          case rel => exact ⟨j, by omega, by go_num, by first | rfl | trivial, hp⟩
          case measure => simp [intOf]
      · simp only [Bool.true_or, if_true] at hp
        subst hp
        go_wp2
        go_ret
        exact ⟨rfl, rfl⟩

set_option maxHeartbeats 1000000 in
theorem lclear_any (w : World) (rl : List Raw) (zs : List Ent) (ao : Option Addr) (n c : Nat) (hr : Ls w ao n c rl zs) (hl : n < 100000) :
    Calls Try.prog 27 #[.slice ao n c] w fun e w' => (∃ j, e = .returned (.slice ao j c) ∧ j ≤ n ∧ Ls w' ao j c (rl.take j) (clr zs)) ∧ Kp [] w w' := by
  obtain rfl : n = zs.length := hr.len
  obtain ⟨A, hA⟩ : ∃ A, clr (zs.take zs.length) = A := ⟨_, rfl⟩
  rw [show clr zs = A by rw [← hA, List.take_of_length_le (Nat.le_refl _)]]
  have HR : Hid (∀ W j, Kp [] w W → j ≤ zs.length → zs.take j = A → Ls W ao j c (rl.take j) A) := fun W j k hj e => by rw [← e]; exact (hr.kept k).take j hj
  have hcap := hr.rs.cap
  have HK : Hid (Kp [] w w) := Kp.refl _ _
  go_enter Try.func27, Try.ntmps27
  go_wp2
  go_loopw [0] (fun s wr => ∃ k : Nat, k ≤ zs.length ∧ s = .slice ao k c ∧ Kp [] w wr ∧ clr (zs.take k) = A) (fun s _ => slen s)
  case atStart => exact ⟨zs.length, Nat.le_refl _, rfl, HK.out, hA⟩
  case round =>
    obtain ⟨k, hk, rfl, kr, hp⟩ := hrel
    clear hA HK
    rcases k with _ | j
    · simp only [List.take_zero, clr_nil] at hp
      have R := HR.out wr 0 kr (Nat.zero_le _) (by rw [List.take_zero]; exact hp)
      have KR : Hid (Kp [] w wr) := kr
      have R2 : Hid _ := R
      clear hr HR kr R
      go_wp2
      go_ret
      exact ⟨⟨0, rfl, Nat.zero_le _, R2.out⟩, KR.out⟩
    · obtain ⟨b, off, xo, xn, xc, rfl, c0, c1, c2, c3, _, _, _⟩ := (hr.kept kr).get j (by omega)
      rw [List.take_succ_eq_append_getElem (show j < zs.length by omega), clr_snoc] at hp
      have hj2 : j < zs.length := by omega
      have hjc : j + 1 ≤ c := by omega
      generalize zs[j] = x at c0 c1 c2 c3 hp
      obtain ⟨m, hh, nm, l⟩ := x
      simp only at hp c0 c1 c2
      have hjj : ((j + 1 : Nat) : Int) - 1 = (j : Int) := by omega
      have hjw : IntKind.i64.wrap (((j + 1 : Nat) : Int) - 1) = (j : Int) := by rw [IntKind.wrap_i64]; omega
      have hjw2 : IntKind.i64.wrap ((j : Int) + 1 - 1) = (j : Int) := by rw [IntKind.wrap_i64]; omega
      have KZ : Hid (Kp [] w (wr.alloc (.cells #[.bool m, .int .i64 hh, .string nm, .slice xo xn xc] 40))) := kr.alloc _
      have g0 : (wr.alloc (.cells #[.bool m, .int .i64 hh, .string nm, .slice xo xn xc] 40)).cell? ⟨wr.heap.size, 0, none⟩ = some (.bool m) := by rw [cell_of (heap_new _ _)]; rfl
      have i1 : (0 : Int) ≤ (j : Int) := by omega
      have i2 : (j : Int) ≤ (c : Int) := by omega
      have i3 : (j : Int) < (j : Int) + 1 := by omega
      clear hr kr
      cases m
      · simp only [Bool.false_eq_true, if_false] at hp
        clear HR
        go_wp2
        go_roundw
        case rel => exact ⟨j, by omega, by go_num, KZ.out, hp⟩
        case measure => simp [slen]
      · simp only [if_true] at hp
        have R : Hid _ := HR.out _ j KZ.out (by omega) hp
        clear HR
        go_wp2
        go_ret
        exact ⟨⟨j, rfl, by omega, R.out⟩, KZ.out⟩

end Go.Proofs.Ytadcpkdnpfmphaa.Ints
