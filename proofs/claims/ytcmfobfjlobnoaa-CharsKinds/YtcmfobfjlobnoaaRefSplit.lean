/-
  The document's Split, of any text.
-/
import Derived.Test.YtcmfobfjlobnoaaSplit
import Derived.BigQuiet
namespace Go.Proofs.Ytcmfobfjlobnoaa
open Go.RowKit Utf

theorem Made.drewN {w w1 : World} {e : TypeId} {ao : Option Addr} {n c : Nat} {xs : List Value} (h : Made w w1 e ao n c xs) (q : Nat) : Made w (w1.drewN q) e ao n c xs := h.kept ((Kp.refl _ _).drewN q)

theorem index_at (s : ByteArray) (i : Int) (j : Nat) (hi : i = j) (h : j < s.size) (W : World) : (Instr.index 9 (.string s) (.int .i64 i)).run Try.prog W = .ok (.int .u8 ((s[j]'h).toNat : Int)) W := by
  subst hi
  rw [run_index_string W 9 s .i64 j Try.underlying9]
  simp [h]

set_option maxHeartbeats 1000000 in
set_option maxRecDepth 100000 in
theorem ref_split_any (w : World) (s : ByteArray) (hl : s.size ≤ 100000) : Calls Try.prog 26 #[.string s] w fun e w' => ∃ ao n c, e = .returned (.slice ao n c) ∧ Made w w' 9 ao n c (tx (split s)) := by
  have hstart : Hid (1 ≤ s.size → Run s 1 0 (kind s 0) []) := fun h => by
    have := (Run.start s).on (sz := 1) (x := kind s 0) (Nat.le_refl _) (by omega) (fun j a b => by
      obtain rfl : j = 0 := by omega
      rfl) (Or.inl rfl)
    simpa using this
  have hzero : Hid (s.size = 0 → split s = []) := fun h => by rw [split, if_pos h]
  go_enter Try.func26, Try.ntmps26
  go_wp2
  go_loopw [3, 4, 5] (fun v f i wr => ∃ (k F : Nat) (L : List ByteArray) (ao : Option Addr) (n c : Nat), v = .slice ao n c ∧ f = .int .i64 F ∧ i = .int .i64 k ∧ F ≤ k ∧ L.length ≤ k ∧ k ≤ s.size + 1 ∧ Hid (1 ≤ k ∧ (k ≤ s.size → Run s k F (kind s (k - 1)) L) ∧ (s.size < k → L = split s)) ∧ Made w wr 9 ao n c (tx L)) (fun _ _ i _ => s.size + 1 - (intOf i).toNat)
  case atStart => exact ⟨1, 0, [], none, 0, 0, rfl, rfl, rfl, by omega, by simp, by omega, ⟨Nat.le_refl _, hstart.out, fun h => (hzero.out (by omega)).symm⟩, Made.nil _ _⟩
  case round =>
    obtain ⟨k, F, L, ao, n, c, rfl, rfl, rfl, hFk, hLk, hks, hr, hm⟩ := hrel
    clear hstart hzero
    by_cases hle : k ≤ s.size
    · by_cases hlt : k < s.size
      · obtain ⟨q, rfl⟩ : ∃ q, k = q + 1 := ⟨k - 1, by have := hr.out.1; omega⟩
        have hrun := hr.out.2.1 hle
        simp only [Nat.add_sub_cancel] at hrun
        have d3 : ∀ j, q + 1 ≤ j → j < q + 1 + 1 → kind s j = kind s (q + 1) := fun j a b => by
          obtain rfl : j = q + 1 := by omega
          rfl
        have e1 := kind_at s (q + 1) hlt
        have e2 := kind_at s q (by omega)
        have ix1 := index_at s ((q : Int) + 1) (q + 1) (by omega) hlt
        have ix2 := index_at s ((q : Int) + 1 - 1) q (by omega) (by omega)
        have ix3 := index_at s (q : Int) q (by omega) (by omega)
        have g1 : ((q : Int) + 1 == (s.size : Int)) = false := by
          simp
          omega
        have l1 : 0 ≤ ((s[q + 1]'hlt).toNat : Int) ∧ ((s[q + 1]'hlt).toNat : Int) < 256 := by have := (s[q + 1]'hlt).toNat_lt; omega
        have l2 : 0 ≤ ((s[q]'(by omega)).toNat : Int) ∧ ((s[q]'(by omega)).toNat : Int) < 256 := by have := (s[q]'(by omega)).toNat_lt; omega
        generalize ((s[q + 1]'hlt).toNat : Int) = a at e1 ix1 l1
        generalize ((s[q]'(by omega)).toNat : Int) = b at e2 ix2 ix3 l2
        obtain ⟨l1, l3⟩ := l1
        obtain ⟨l2, l4⟩ := l2
        by_cases hc : kind s (q + 1) = kind s q
        · have hr2 : Hid (Run s (q + 1 + 1) F (kind s (q + 1)) L) := hrun.on (Nat.le_refl _) (by omega) d3 (Or.inr hc)
          have hne : Hid ((!(isSp a == isSp b)) = false) := by
            show _ = _
            rw [← e1, ← e2, hc]
            simp
          clear hrun d3 e1 e2 hr hc
          go_wp2
          go_quiet (first | (go_at_call 21; refine Calls.quiet_of_same (ref_space_any _ _)))
          rw [hne.out]
          go_wp2
          go_roundw
          case rel => exact ⟨q + 1 + 1, F, L, _, _, _, rfl, rfl, by go_num, by omega, by omega, by omega, ⟨by omega, fun _ => hr2.out, fun h => by omega⟩, hm.drewN nq⟩
          case measure => simp [intOf]; omega
        · have hr2 : Hid (Run s (q + 1 + 1) (q + 1) (kind s (q + 1)) (L ++ [s.extract F (q + 1)])) := hrun.cut (Nat.le_refl _) (by omega) d3 (by omega) hc
          have hne : Hid ((!(isSp a == isSp b)) = true) := by
            show _ = _
            rw [← e1, ← e2]
            simpa using hc
          clear hrun d3 e1 e2 hr hc
          go_wp2
          go_quiet (first | (go_at_call 21; refine Calls.quiet_of_same (ref_space_any _ _)))
          rw [hne.out]
          have hm2 := hm.drewN nq
          generalize wr.drewN nq = w2 at hm2 ⊢
          obtain ⟨ao', n', c', w4, hrun, hm4⟩ := hm2.one Try.underlying29 info9 rfl (by decide) (.string (s.extract F (q + 1))) rfl (by rw [tx_len]; omega)
          rw [tx_snoc] at hm4
          clear hm hm2
          go_wp2_with (at_builtin; refine Lib.wpList_append_run _ rfl _ _ _ _ rfl _ _ rfl rfl _ _ (hrun _) ?_)
          go_roundw
          case rel => exact ⟨q + 1 + 1, q + 1, _, _, _, _, rfl, rfl, by go_num, by omega, by simp; omega, by omega, ⟨by omega, fun _ => hr2.out, fun h => by omega⟩, hm4⟩
          case measure => simp [intOf]; omega
      · obtain rfl : k = s.size := by omega
        have hd : Hid (L ++ [s.extract F s.size] = split s) := by
          have h1 := hr.out.1
          rcases (hr.out.2.1 (Nat.le_refl _)).done with ⟨h2, _⟩ | ⟨_, h2⟩
          · omega
          · exact h2.symm
        have g1 : ((s.size : Int) == (s.size : Int)) = true := by simp
        clear hr
        go_wp2
        go_quiet (first | (go_at_call 21; refine Calls.quiet_of_same (ref_space_any _ _)))
        have hm2 := hm.drewN nq
        generalize wr.drewN nq = w2 at hm2 ⊢
        obtain ⟨ao', n', c', w4, hrun, hm4⟩ := hm2.one Try.underlying29 info9 rfl (by decide) (.string (s.extract F s.size)) rfl (by rw [tx_len]; omega)
        rw [tx_snoc] at hm4
        clear hm hm2
        go_wp2_with (at_builtin; refine Lib.wpList_append_run _ rfl _ _ _ _ rfl _ _ rfl rfl _ _ (hrun _) ?_)
        go_roundw
        case rel => exact ⟨s.size + 1, s.size, _, _, _, _, rfl, rfl, by go_num, by omega, by simp; omega, by omega, ⟨by omega, fun h => by omega, fun _ => hd.out⟩, hm4⟩
        case measure => simp [intOf]
    · have hd : Hid (L = split s) := hr.out.2.2 (by omega)
      clear hr
      go_wp2
      go_ret
      exact ⟨_, _, _, rfl, by rw [← hd.out]; exact hm⟩

end Go.Proofs.Ytcmfobfjlobnoaa
