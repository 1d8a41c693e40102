/-
  Scope, of a list of ints as handles; Has.
-/
import Derived.Test.YtpadnfpifldoaaaLdi
import Derived.Deep.QuietTactic
namespace Go.Proofs.Ytpadnfpifldoaaa.Ints
open Go.RowKit
set_option linter.unusedSimpArgs false

set_option maxHeartbeats 1000000 in
theorem scope_list (w0 w : World) (q : Nat) (zs : List It) (k : Int) (L : List ByteArray) (ao : Option Addr) (n c : Nat) (hL : Li w0 w q zs) (hR : Rb w ao n c (tx L)) (hn : n ≤ 1000) (hl : zs.length < 100000) :
    Calls Try.prog 20 #[.pointer (some ⟨q, 0, none⟩), .int .i64 k, .slice ao n c] w fun e w' => e = .returned (.bool (scp k L zs)) ∧ Kp [] w w' := by
  by_cases hk : 1 ≤ k ∧ k ≤ 4
  · obtain ⟨A, hA⟩ : ∃ A, scpR k L (zs.take zs.length).reverse = A := ⟨_, rfl⟩
    rw [show scp k L zs = A by rw [scp, if_pos hk, ← hA, rev_all]]
    have HL := len_list w0 w q zs hL
    have hk1 : ¬ k < 1 := by omega
    have hk2 : ¬ 4 < k := by omega
    have hK : Kp [] w w := Kp.refl _ _
    go_enter Try.func20, Try.ntmps20
    go_wp2_with fail
    refine HL.mono ?_
    rintro e w' ⟨rfl, hw⟩
    have hw2 := hw.symm
    clear hw
    subst hw2
    go_wp2
    go_loopw [7] (fun i wr => ∃ j : Nat, j ≤ zs.length ∧ i = .int .i64 ((j : Int) - 1) ∧ Kp [] w wr ∧ scpR k L (zs.take j).reverse = A) (fun i _ => (intOf i + 1).toNat)
    case atStart => exact ⟨zs.length, Nat.le_refl _, rfl, Kp.refl _ _, hA⟩
    case round =>
      obtain ⟨j, hj, rfl, kr, hp⟩ := hrel
      clear hA HL
      rcases j with _ | j
      · simp only [List.take_zero, List.reverse_nil, scpR] at hp
        subst hp
        go_wp2
        go_ret
        exact ⟨rfl, kr⟩
      · obtain ⟨p, v, bs, hx⟩ := hL.kept kr
        have hR' := hR.kept kr
        have hc := hx.cell
        obtain ⟨b, hb1, hb2⟩ := hx.get j (by omega)
        have HA := at_in wr p v bs (j : Int) hx.px (by omega) (by rw [hx.len]; omega) b (by simpa using hb1)
        rw [rev_take zs j (by omega)] at hp
        generalize zs[j] = x at hb2 hp
        have HI := isOf_any wr b x L ao n c hb2 hR' hn
        have HB := fun W => bounds_any W k x
        unfold scpR at hp
        obtain ⟨hh, ns, nm⟩ := x
        obtain ⟨g, rfl, c0, c1, c2, c3⟩ := hb2.out
        clear hb1 hb2 hx hL hR hR'
        rw [show (((j + 1 : Nat) : Int) - 1) = (j : Int) by omega]
        generalize isIn L (hh, ns, nm) = I at HI hp
        generalize bnd k (hh, ns, nm) = B at HB hp
        simp only at HB
        cases I
        · cases B
          · simp only [Bool.false_eq_true, if_false] at hp
            go_wp2_with (first | (go_at_call 53; refine (HA).mono ?_; rintro e w9 ⟨rfl, hw⟩; have hw2 := hw.symm; clear hw; subst hw2) | (go_at_call 54; refine (HI).mono ?_; rintro e w9 ⟨rfl, hw⟩; have hw2 := hw.symm; clear hw; subst hw2))
            go_quiet (first | (go_at_call 49; refine Calls.quiet_of_same (HB _)))
            go_wp2
            go_roundw
            case rel => exact ⟨j, by omega, by go_num, kr.drewN _, hp⟩
            case measure => simp [intOf]
          · simp only [Bool.false_eq_true, if_false, if_true] at hp
            subst hp
            go_wp2_with (first | (go_at_call 53; refine (HA).mono ?_; rintro e w9 ⟨rfl, hw⟩; have hw2 := hw.symm; clear hw; subst hw2) | (go_at_call 54; refine (HI).mono ?_; rintro e w9 ⟨rfl, hw⟩; have hw2 := hw.symm; clear hw; subst hw2))
            go_quiet (first | (go_at_call 49; refine Calls.quiet_of_same (HB _)))
            go_wp2
            go_ret
            exact ⟨rfl, kr.drewN _⟩
        · simp only [if_true] at hp
          subst hp
          go_wp2_with (first | (go_at_call 53; refine (HA).mono ?_; rintro e w9 ⟨rfl, hw⟩; have hw2 := hw.symm; clear hw; subst hw2) | (go_at_call 54; refine (HI).mono ?_; rintro e w9 ⟨rfl, hw⟩; have hw2 := hw.symm; clear hw; subst hw2))
          go_ret
          exact ⟨rfl, kr⟩
  · rw [show scp k L zs = false by rw [scp, if_neg hk]]
    clear hL hR
    by_cases hk1 : k < 1
    · clear hk
      go_enter Try.func20, Try.ntmps20
      go_wp2
      go_ret
      exact ⟨rfl, Kp.refl _ _⟩
    · have hk2 : 4 < k := by omega
      clear hk
      go_enter Try.func20, Try.ntmps20
      go_wp2
      go_ret
      exact ⟨rfl, Kp.refl _ _⟩

set_option maxHeartbeats 1000000 in
theorem has_list (w0 w : World) (q : Nat) (zs : List It) (s : ByteArray) (hL : Li w0 w q zs) (hl : zs.length < 100000) :
    Calls Try.prog 21 #[.pointer (some ⟨q, 0, none⟩), .string s] w fun e w' => e = .returned (.bool (hasN s zs)) ∧ w' = w := by
  obtain ⟨A, hA⟩ : ∃ A, hasN s zs = A := ⟨_, rfl⟩
  rw [hA]
  unfold hasN at hA
  have HL := len_list w0 w q zs hL
  obtain ⟨p, v, bs, hx⟩ := hL
  have hc := hx.cell
  go_enter Try.func21, Try.ntmps21
  go_wp2_with fail
  refine HL.mono ?_
  rintro e w' ⟨rfl, hw⟩
  have hw2 := hw.symm
  clear hw
  subst hw2
  go_wp2
  go_loopw [10] (fun i wr => ∃ j : Nat, j ≤ zs.length ∧ i = .int .i64 j ∧ wr = w ∧ ((zs.drop j).any fun x => isIn [s] x) = A) (fun i _ => zs.length - (intOf i).toNat)
  case atStart => exact ⟨0, Nat.zero_le _, rfl, rfl, hA⟩
  case round =>
    obtain ⟨j, hj, rfl, rfl, hp⟩ := hrel
    clear hA HL
    by_cases hlt : j < zs.length
    · obtain ⟨b, hb1, hb2⟩ := hx.get j hlt
      have HA := at_in wr p v bs (j : Int) hx.px (by omega) (by rw [hx.len]; omega) b (by simpa using hb1)
      rw [List.drop_eq_getElem_cons hlt, List.any_cons] at hp
      generalize zs[j] = x at hb2 hp
      have HI := is_any wr b x s hb2
      generalize isIn [s] x = I at HI hp
      clear hb1 hb2 hx
      cases I
      · rw [Bool.false_or] at hp
        go_wp2_with (first | (go_at_call 53; refine (HA).mono ?_; rintro e w9 ⟨rfl, hw⟩; have hw2 := hw.symm; clear hw; subst hw2) | (go_at_call 55; refine (HI).mono ?_; rintro e w9 ⟨rfl, hw⟩; have hw2 := hw.symm; clear hw; subst hw2))
        go_roundw
        case rel => exact ⟨j + 1, by omega, by go_num, by first | rfl | trivial, hp⟩
        case measure => simp [intOf]; omega
      · rw [Bool.true_or] at hp
        subst hp
        go_wp2_with (first | (go_at_call 53; refine (HA).mono ?_; rintro e w9 ⟨rfl, hw⟩; have hw2 := hw.symm; clear hw; subst hw2) | (go_at_call 55; refine (HI).mono ?_; rintro e w9 ⟨rfl, hw⟩; have hw2 := hw.symm; clear hw; subst hw2))
        go_ret
        exact ⟨rfl, rfl⟩
    · rw [List.drop_eq_nil_of_le (by omega), List.any_nil] at hp
      subst hp
      go_wp2
      go_ret
      exact ⟨rfl, rfl⟩

end Go.Proofs.Ytpadnfpifldoaaa.Ints
