/-
  The modes reset: reset of the laws.
-/
import Derived.Test.YtfobbgmfbpoigaaRes
namespace Go.Proofs.Ytfobbgmfbpoigaa.Ints
open Go.RowKit Utf
set_option linter.unusedSimpArgs false
set_option linter.unusedVariables false

set_option maxRecDepth 100000 in
set_option maxHeartbeats 4000000 in
theorem lreset_any (w : World) (ao : Option Addr) (n d : Nat) (zs : List It) (co : Option Addr) (c : Option (Int × ByteArray)) (t : Int) (hd : Bool) (hr : Rs w ao n d zs) (hc : Cp w co c) (hl : zs.length ≤ 1000) :
    Calls Try.prog 22 #[.slice ao n d, .pointer co, .int .i64 t, .bool hd] w fun e w' => e = .returned (.int .i64 (rsK t hd (vw c zs) zs.length)) ∧ Kp [] w w' := by
  obtain rfl := hr.len
  obtain ⟨A, hA⟩ : ∃ A, rsK t hd (vw c zs) zs.length = A := ⟨_, rfl⟩
  rw [hA]
  go_enter Try.func22, Try.ntmps22
  go_wp2
  go_loopw [9] (fun i wr => ∃ k : Nat, k ≤ zs.length ∧ i = .int .i64 ((k : Int) - 1) ∧ Kp [] w wr ∧ rsK t hd (vw c zs) k = A) (fun i _ => (intOf i + 1).toNat)
  case atStart => exact ⟨zs.length, Nat.le_refl _, rfl, Kp.refl _ _, hA⟩
  case round =>
    obtain ⟨k, hk, rfl, kr, hp⟩ := hrel
    clear hA
    cases k with
    | zero =>
      have hA2 : (6 : Int) = A := hp
      subst hA2
      have e0 : ((0 : Nat) : Int) - 1 = -1 := rfl
      rw [e0]
      go_wp2
      go_ret
      exact ⟨rfl, kr⟩
    | succ m =>
      have hv : m < (vw c zs).length := by rw [vw_len]; omega
      rw [rsK_on hv] at hp
      have e0 : ((m + 1 : Nat) : Int) - 1 = (m : Int) := by omega
      rw [e0]
      obtain ⟨b1, o1, rfl, c0, c1, c2, c3⟩ := (hr.kept kr).get m (by omega)
      have hc2 := hc.kept kr
      have KR : Hid (Kp [] w wr) := kr
      have hnext : Hid (∀ q : Nat, Kp [] w (wr.drewN q)) := fun q => kr.drewN q
      have hm1 : (m : Int) < (zs.length : Int) := by omega
      have hm2 : m < zs.length := by omega
      have hmeas : Hid (m < m + 1) := Nat.lt_succ_self m
      have HP : Hid (∀ ns s, (vw c zs)[m] = (ns, s) → (go1 t hd (m == 0) (ns, s)).getD (rsK t hd (vw c zs) m) = A) := fun ns s e => by rw [← e]; exact hp
      clear hp
      rcases hc2 with ⟨rfl, rfl⟩ | ⟨b, cns, cs2, v, rfl, rfl, hb⟩
      · have hp := HP.out zs[m].2.1 zs[m].2.2 (vw_none zs m hv)
        generalize zs[m] = x at c0 c1 c2 c3 hp
        obtain ⟨hh, ns, s⟩ := x
        simp only at c0 c1 c2 c3 hp
        clear hr hc HP kr hv e0
        rcases Nat.eq_zero_or_pos m with h0 | h0
        · have hz : ((m : Int) == 0) = true := by rw [beq_iff_eq]; omega
          have hz2 : decide ((m : Int) > 0) = false := by simp; omega
          have hz3 : (m == 0) = true := by rw [beq_iff_eq]; omega
          rw [hz3] at hp
          clear h0 hz3
          go_wp2_with fail
          go_quiet (fail)
          go_wp2
          all_goals (try simp only [beq_iff_eq, beq_eq_false_iff_ne, ne_eq] at *)
          all_goals first
            | (rename_i h1 h2; exact absurd (h1.symm.trans h2) (by decide))
            | (refine ⟨⟨m, by omega, rfl, hnext.out _, ?_⟩, ?_⟩
               · rw [← hp]
                 simp [go1, wth, wTD, wTH, wHEAD, wTR, wTBODY, wTFOOT, wTHEAD, wTABLE, wBODY, wTEMPLATE, wHTML, *]
                 done
               · first | (simp [intOf]; done) | (simp [intOf]; omega))
            | (go_ret; refine ⟨?_, hnext.out _⟩; rw [← hp]; simp [go1, wth, wTD, wTH, wHEAD, wTR, wTBODY, wTFOOT, wTHEAD, wTABLE, wBODY, wTEMPLATE, wHTML, *]; done)
            | (exfalso; simp_all; done)
        · have hz : ((m : Int) == 0) = false := by rw [beq_eq_false_iff_ne]; omega
          have hz2 : decide ((m : Int) > 0) = true := by simp; omega
          have hz3 : (m == 0) = false := by rw [beq_eq_false_iff_ne]; omega
          rw [hz3] at hp
          clear h0 hz3
          go_wp2_with fail
          go_quiet (fail)
          go_wp2
          all_goals (try simp only [beq_iff_eq, beq_eq_false_iff_ne, ne_eq] at *)
          all_goals first
            | (rename_i h1 h2; exact absurd (h1.symm.trans h2) (by decide))
            | (refine ⟨⟨m, by omega, rfl, hnext.out _, ?_⟩, ?_⟩
               · rw [← hp]
                 simp [go1, wth, wTD, wTH, wHEAD, wTR, wTBODY, wTFOOT, wTHEAD, wTABLE, wBODY, wTEMPLATE, wHTML, *]
                 done
               · first | (simp [intOf]; done) | (simp [intOf]; omega))
            | (go_ret; refine ⟨?_, hnext.out _⟩; rw [← hp]; simp [go1, wth, wTD, wTH, wHEAD, wTR, wTBODY, wTFOOT, wTHEAD, wTABLE, wBODY, wTEMPLATE, wHTML, *]; done)
            | (exfalso; simp_all; done)
      · have d0 : wr.cell? ⟨b, 0, none⟩ = some (.int .i64 cns) := cell_of hb 0
        have d1 : wr.cell? ⟨b, 1, none⟩ = some (.string cs2) := cell_of hb 1
        rcases Nat.eq_zero_or_pos m with h0 | h0
        · have hp := HP.out cns cs2 (by subst h0; exact vw_first _ _ hv)
          generalize zs[m] = x at c0 c1 c2 c3
          obtain ⟨hh, ns, s⟩ := x
          simp only at c0 c1 c2 c3 hp
          clear hr hc HP kr hv e0 hb
          have hz : ((m : Int) == 0) = true := by rw [beq_iff_eq]; omega
          have hz2 : decide ((m : Int) > 0) = false := by simp; omega
          have hz3 : (m == 0) = true := by rw [beq_iff_eq]; omega
          rw [hz3] at hp
          clear h0 hz3
          go_wp2_with fail
          go_quiet (fail)
          go_wp2_with fail
          go_quiet (fail)
          go_wp2
          all_goals (try simp only [beq_iff_eq, beq_eq_false_iff_ne, ne_eq] at *)
          all_goals first
            | (rename_i h1 h2; exact absurd (h1.symm.trans h2) (by decide))
            | (refine ⟨⟨m, by omega, rfl, hnext.out _, ?_⟩, ?_⟩
               · rw [← hp]
                 simp [go1, wth, wTD, wTH, wHEAD, wTR, wTBODY, wTFOOT, wTHEAD, wTABLE, wBODY, wTEMPLATE, wHTML, *]
                 done
               · first | (simp [intOf]; done) | (simp [intOf]; omega))
            | (go_ret; refine ⟨?_, hnext.out _⟩; rw [← hp]; simp [go1, wth, wTD, wTH, wHEAD, wTR, wTBODY, wTFOOT, wTHEAD, wTABLE, wBODY, wTEMPLATE, wHTML, *]; done)
            | (exfalso; simp_all; done)
        · have hp := HP.out zs[m].2.1 zs[m].2.2 (vw_on _ zs m h0 hv)
          generalize zs[m] = x at c0 c1 c2 c3 hp
          obtain ⟨hh, ns, s⟩ := x
          simp only at c0 c1 c2 c3 hp
          clear hr hc HP kr hv e0 hb d0 d1
          have hz : ((m : Int) == 0) = false := by rw [beq_eq_false_iff_ne]; omega
          have hz2 : decide ((m : Int) > 0) = true := by simp; omega
          have hz3 : (m == 0) = false := by rw [beq_eq_false_iff_ne]; omega
          rw [hz3] at hp
          clear h0 hz3
          go_wp2_with fail
          go_quiet (fail)
          go_wp2
          all_goals (try simp only [beq_iff_eq, beq_eq_false_iff_ne, ne_eq] at *)
          all_goals first
            | (rename_i h1 h2; exact absurd (h1.symm.trans h2) (by decide))
            | (refine ⟨⟨m, by omega, rfl, hnext.out _, ?_⟩, ?_⟩
               · rw [← hp]
                 simp [go1, wth, wTD, wTH, wHEAD, wTR, wTBODY, wTFOOT, wTHEAD, wTABLE, wBODY, wTEMPLATE, wHTML, *]
                 done
               · first | (simp [intOf]; done) | (simp [intOf]; omega))
            | (go_ret; refine ⟨?_, hnext.out _⟩; rw [← hp]; simp [go1, wth, wTD, wTH, wHEAD, wTR, wTBODY, wTFOOT, wTHEAD, wTABLE, wBODY, wTEMPLATE, wHTML, *]; done)
            | (exfalso; simp_all; done)

end Go.Proofs.Ytfobbgmfbpoigaa.Ints
