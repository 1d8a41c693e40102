/-
  The program's Encode, of what may be written.
-/
import Derived.Test.YtpjkpobdkmcedaaDoorEncD
namespace Go.Proofs.YtpjkpobdkmcedaaDoor
open Go.RowKit Utf
set_option linter.unusedVariables false
set_option linter.unusedSimpArgs false

set_option maxRecDepth 100000 in
set_option maxHeartbeats 2000000 in
theorem encode_ok (w : World) (ao : Option Addr) (n c : Nat) (L : List Q) (h : Given w ao n c L) (hok : ∀ q, q ∈ L → okO q.1 = true) (hlen : (obs (os L)).length ≤ 800000) :
    Calls Tryd.prog 7 #[.slice ao n c] w fun e w' => ∃ a' n' c', e = .returned (.tuple #[.slice a' n' c', .int .i64 0]) ∧ Mb w w' (.slice a' n' c') (obs (os L)) := by
  have hn := h.rq.len
  subst hn
  have HG : Hid (Given w ao L.length c L) := h
  have HO : Hid (∀ q, q ∈ L → okO q.1 = true) := hok
  have hfew := h.few
  clear h hok
  go_enter Tryd.func7, Tryd.ntmps7
  go_wp2
  go_loopw [11] (fun i wr => ∃ k : Nat, k ≤ L.length ∧ i = .int .i64 k ∧ Kp [] w wr) (fun i _ => L.length - (intOf i).toNat)
  case atStart => exact ⟨0, Nat.zero_le _, rfl, Kp.refl _ _⟩
  case round =>
    obtain ⟨k, hk, rfl, kw⟩ := hrel
    by_cases hlt : k < L.length
    · obtain ⟨b, off, rfl, N⟩ := (HG.out.rq.kept kw).get k hlt
      have C0 := cop_new kw (HG.out.at' L[k] (List.getElem_mem hlt))
      have hz := HO.out L[k] (List.getElem_mem hlt)
      clear HG HO
      generalize L[k] = x at N C0 hz
      obtain ⟨⟨o1, o2, o3, o4, o5, o6, o7, o8, o9⟩, p1, p2, p3⟩ := x
      unfold okO at hz
      rw [Bool.and_eq_true] at hz
      obtain ⟨z1, z2⟩ := hz
      obtain ⟨f0, f1, f2, f3, f4, f5, f6, f7, f8⟩ := N
      have C1 : Hid (Cop w (wr.alloc (.cells (oc ⟨o1, o2, o3, o4, o5, o6, o7, o8, o9⟩ (p1, p2, p3)) 24)) wr.heap.size (⟨o1, o2, o3, o4, o5, o6, o7, o8, o9⟩, p1, p2, p3)) := C0
      clear C0
      simp only [oc] at f0 f1 f2 f3 f4 f5 f6 f7 f8 C1
      have HR := right_any _ _ _ C1.out.at' C1.out.few
      simp only [ov] at HR z1 z2
      rw [z1] at HR
      go_wp2_with fail
      refine HR.mono ?_
      rintro e w1 ⟨rfl, k1⟩
      have C2 : Hid (Cop w w1 wr.heap.size (⟨o1, o2, o3, o4, o5, o6, o7, o8, o9⟩, p1, p2, p3)) := C1.out.kept k1
      clear HR C1 f0 f1 f2 f3 f4 f5 f6 f7 f8 k1
      obtain ⟨f0, f1, f2, f3, f4, f5, f6, f7, f8⟩ := C2.out.nine
      simp only [Nat.zero_add] at f0 f1 f2 f3 f4 f5 f6 f7 f8
      have HF := fits_any _ _ _ C2.out.at' C2.out.few
      simp only [ov] at HF
      rw [z2] at HF
      go_wp2_with fail
      refine HF.mono ?_
      rintro e w2 ⟨rfl, k2⟩
      have kz : Kp [] w w2 := C2.out.kp.trans k2 (fun z hz => Or.inl hz)
      clear HF C2 k2 f0 f1 f2 f3 f4 f5 f6 f7 f8
      go_wp2
      go_roundw
      case rel => exact ⟨k + 1, by omega, by go_num, kz⟩
      case measure => simp [intOf]; omega
    · obtain rfl : k = L.length := by omega
      clear hlt hk
      go_wp2
      obtain ⟨wr0, hwr0⟩ : ∃ x, x = wr := ⟨_, rfl⟩
      rw [← hwr0] at kw ⊢
      clear hwr0
      go_loopw [6, 26] (fun bv i wr => ∃ (k : Nat) (a' : Option Addr) (n' c' : Nat), k ≤ L.length ∧ i = .int .i64 k ∧ bv = .slice a' n' c' ∧ Mb w wr (.slice a' n' c') (obs (os (L.take k)))) (fun _ i _ => L.length - (intOf i).toNat)
      case atStart => exact ⟨0, none, 0, 0, Nat.zero_le _, rfl, rfl, Or.inl ⟨rfl, rfl⟩, kw, fun k hk => by simp [blk] at hk⟩
      case round =>
        obtain ⟨k, a', n', c', hk, rfl, rfl, M⟩ := hrel
        clear kw
        by_cases hlt : k < L.length
        · obtain ⟨b, off, rfl, N⟩ := (HG.out.rq.kept M.2.1).get k hlt
          have hz := HO.out L[k] (List.getElem_mem hlt)
          have hat := HG.out.at' L[k] (List.getElem_mem hlt)
          have hnx : Hid (obs (os (L.take k)) ++ ob L[k].1 = obs (os (L.take (k + 1)))) := (obs_at hlt).symm
          have hl1 : (obs (os (L.take k))).length + (ob L[k].1).length ≤ 800000 := by
            have e1 := obs_at hlt
            have e2 := obs_take_le L (k + 1)
            rw [e1, List.length_append] at e2
            omega
          clear HG HO
          generalize L[k] = x at N hz hat hnx hl1
          generalize obs (os (L.take k)) = ys at M hnx hl1
          obtain ⟨⟨o1, o2, o3, o4, o5, o6, o7, o8, o9⟩, p1, p2, p3⟩ := x
          unfold okO at hz
          rw [Bool.and_eq_true] at hz
          obtain ⟨z1, z2⟩ := hz
          simp only at z1 z2 hl1
          obtain ⟨f0, f1, f2, f3, f4, f5, f6, f7, f8⟩ := N
          have M1 : Mb w (wr.alloc (.cells (oc ⟨o1, o2, o3, o4, o5, o6, o7, o8, o9⟩ (p1, p2, p3)) 24)) (.slice a' n' c') ys := M.kept ((Kp.refl _ _).alloc _)
          have HP := putop_any _ _ ys M1.1 ⟨o1, o2, o3, o4, o5, o6, o7, o8, o9⟩ (p1, p2, p3) (fun W kW => hat.1.kept (M1.2.1.trans kW (fun x hx => Or.inr (M1.2.2 x hx)))) z1 (fitB_iff.1 z2) (by omega)
          have HM : Hid (Mb w (wr.alloc (.cells (oc ⟨o1, o2, o3, o4, o5, o6, o7, o8, o9⟩ (p1, p2, p3)) 24)) (.slice a' n' c') ys) := M1
          clear M M1 hat z1 z2
          simp only [oc, ov] at HP HM f0 f1 f2 f3 f4 f5 f6 f7 f8
          go_wp2_with fail
          refine HP.mono ?_
          rintro e w1 ⟨v1, rfl, Y⟩
          have M2 := HM.out.ext Y
          clear Y HP HM f0 f1 f2 f3 f4 f5 f6 f7 f8
          obtain ⟨a2, c2, hv⟩ := M2.shape
          subst hv
          have hnx2 := hnx.out
          generalize hm2 : (ys ++ ob ⟨o1, o2, o3, o4, o5, o6, o7, o8, o9⟩).length = m2 at M2 ⊢
          rw [hnx2] at M2
          have HM2 : Hid (Mb w w1 (.slice a2 m2 c2) (obs (os (L.take (k + 1))))) := M2
          clear M2 hnx hnx2 hl1 hm2
          go_wp2
          go_roundw
          case rel => exact ⟨k + 1, _, _, _, by omega, by go_num, rfl, HM2.out⟩
          case measure => simp [intOf]; omega
        · obtain rfl : k = L.length := by omega
          rw [List.take_length] at M
          have HM : Hid (Mb w wr (.slice a' n' c') (obs (os L))) := M
          clear M
          go_wp2
          go_ret2
          exact ⟨_, _, _, rfl, HM.out⟩

end Go.Proofs.YtpjkpobdkmcedaaDoor
