/-
  until and known of the laws.
-/
import Derived.Test.YtpadnfpifldoaaaRe
namespace Go.Proofs.Ytpadnfpifldoaaa.Ints
open Go.RowKit
set_option linter.unusedSimpArgs false

set_option maxHeartbeats 2000000 in
theorem luntil_any (w : World) (zs : List It) (L : List ByteArray) (ao : Option Addr) (n c : Nat) (bo : Option Addr) (m d : Nat) (hz : Rs w bo m d zs) (hR : Rb w ao n c (tx L)) (hn : n ≤ 1000) (hl : m < 100000) :
    Calls Try.prog 40 #[.slice bo m d, .slice ao n c] w fun e w' => ∃ j, e = .returned (.tuple #[.slice bo j d, .int .i64 (untN L zs)]) ∧ j ≤ m ∧ zs.take j = unt L zs ∧ Kp [] w w' := by
  obtain rfl : m = zs.length := hz.len
  have hcap := hz.cap
  obtain ⟨A, hA⟩ : ∃ A, unt L (zs.take zs.length) = A := ⟨_, rfl⟩
  obtain ⟨N, hN⟩ : ∃ N, untN L (zs.take zs.length) = N := ⟨_, rfl⟩
  rw [show unt L zs = A by rw [← hA, List.take_of_length_le (Nat.le_refl _)], show untN L zs = N by rw [← hN, List.take_of_length_le (Nat.le_refl _)]]
  go_enter Try.func40, Try.ntmps40
  go_wp2
  go_loopw [0, 6] (fun l i wr => ∃ k m : Nat, k ≤ zs.length ∧ m + k ≤ 100000 ∧ l = .slice bo k d ∧ i = .int .i64 ((m : Int) + 1) ∧ Kp [] w wr ∧ unt L (zs.take k) = A ∧ m + untN L (zs.take k) = N ∧ (k = 0 → m = 0)) (fun l _ _ => slen l)
  case atStart => exact ⟨zs.length, 0, Nat.le_refl _, by omega, rfl, rfl, Kp.refl _ _, hA, by omega, fun _ => rfl⟩
  case round =>
    obtain ⟨k, m, hk, hm, rfl, rfl, kr, hp, hq, h0⟩ := hrel
    have KR : Hid (Kp [] w wr) := kr
    clear hA hN
    rcases k with _ | k
    · have hm0 := h0 rfl
      subst hm0
      rw [List.take_zero, unt_nil] at hp
      rw [List.take_zero, untN_nil] at hq
      have HF : Hid (zs.take 0 = A) := by rw [← hp]; rfl
      have HN : Hid (N = 0) := (show N = 0 by omega)
      clear hz hR kr hp hq h0
      go_wp2
      go_ret2
      rw [HN.out]
      exact ⟨0, rfl, Nat.zero_le _, HF.out, KR.out⟩
    · obtain ⟨b, off, rfl, c0, c1, c2, c3⟩ := (hz.kept kr).get k (by omega)
      rw [List.take_succ_eq_append_getElem (by omega)] at hp hq
      rw [unt_snoc] at hp
      rw [untN_snoc] at hq
      have hk2 : k < zs.length := by omega
      have hk3 : k + 1 ≤ d := by omega
      have hk4 : k ≤ d := by omega
      generalize zs[k] = x at c0 c1 c2 c3 hp hq
      have k1 : Kp [] w (wr.alloc (.cells (ic x) 36)) := kr.alloc _
      have HI : Hid (Calls Try.prog 33 #[iv x, .slice ao n c] (wr.alloc (.cells (ic x) 36)) fun e w' => e = .returned (.bool (isIn L x)) ∧ Kp [] w w') := from_back (lis_any _ x L ao n c (hR.kept k1) hn) k1
      have HE : Hid (k = 0 → unt L (zs.take k) = [] ∧ untN L (zs.take k) = 0) := fun e => by subst e; exact ⟨rfl, rfl⟩
      generalize hI : isIn L x = I at HI hp hq
      obtain ⟨hh, ns, nm⟩ := x
      simp only [ic, iv] at *
      have H2 := HI.out
      clear hz hR kr k1 HI h0 hI
      cases I
      · simp only [Bool.false_eq_true, if_false] at hp hq
        by_cases hk0 : k = 0
        · obtain ⟨e1, e2⟩ := HE.out hk0
          rw [e1] at hp
          rw [e2] at hq
          have HF : Hid (zs.take k = A) := by rw [hk0, ← hp]; rfl
          have hN : N = m + 1 := by omega
          have hkb : ((k : Int) == 0) = true := by rw [hk0]; rfl
          clear HE e1 e2 hp hq hk0
          go_wp2_with fail
          refine H2.mono ?_
          rintro e w2 ⟨rfl, k2⟩
          have K2 : Hid (Kp [] w w2) := k2
          clear H2 k2 c0 c1 c2 c3
          subst hN
          go_wp2
          go_ret2
          exact ⟨k, by first | rfl | simp, by omega, HF.out, K2.out⟩
        · have hkb : ((k : Int) == 0) = false := by simp; omega
          clear HE
          go_wp2_with fail
          refine H2.mono ?_
          rintro e w2 ⟨rfl, k2⟩
          have K2 : Hid (Kp [] w w2) := k2
          clear H2 k2 c0 c1 c2 c3
          go_wp2
          go_roundw
          case rel => exact ⟨k, m + 1, by omega, by omega, by go_num, by go_num, K2.out, hp, by omega, fun e => absurd e hk0⟩
          case measure => simp [slen]
      · simp only [if_true] at hp hq
        have HF : Hid (zs.take k = A) := hp
        have hN : N = m + 1 := by omega
        clear HE hp hq
        go_wp2_with fail
        refine H2.mono ?_
        rintro e w2 ⟨rfl, k2⟩
        have K2 : Hid (Kp [] w w2) := k2
        clear H2 k2 c0 c1 c2 c3
        subst hN
        go_wp2
        go_ret2
        exact ⟨k, by first | rfl | simp, by omega, HF.out, K2.out⟩

def kn4 : Nat → It
  | 0 => (0, 1, ⟨#[104, 116, 109, 108]⟩)
  | 1 => (1, 1, ⟨#[98, 111, 100, 121]⟩)
  | 2 => (2, 1, ⟨#[112]⟩)
  | _ => (3, 1, ⟨#[108, 105]⟩)

set_option maxHeartbeats 2000000 in
theorem known_any (w : World) : Calls Try.prog 10 #[] w fun e w' => e = .returned (.bool true) ∧ Kp [] w w' := by
  have H1 := new_list w w (Nat.le_refl _)
  go_enter Try.func10, Try.ntmps10
  go_wp2_with fail
  refine H1.mono ?_
  rintro e w1 ⟨q, rfl, hL, k1⟩
  clear H1
  have hb : (w1.alloc (.cells #[.string ⟨#[104, 116, 109, 108]⟩, .string ⟨#[98, 111, 100, 121]⟩, .string ⟨#[112]⟩, .string ⟨#[108, 105]⟩] 9)).heap[w1.heap.size]? = some (.cells #[.string ⟨#[104, 116, 109, 108]⟩, .string ⟨#[98, 111, 100, 121]⟩, .string ⟨#[112]⟩, .string ⟨#[108, 105]⟩] 9 (0, 0)) := heap_new _ _
  obtain ⟨w2, hw2⟩ : ∃ w2, w2 = w1.alloc (.cells #[.string ⟨#[104, 116, 109, 108]⟩, .string ⟨#[98, 111, 100, 121]⟩, .string ⟨#[112]⟩, .string ⟨#[108, 105]⟩] 9) := ⟨_, rfl⟩
  have k2 : Kp [] w1 w2 := by rw [hw2]; exact (Kp.refl _ _).alloc _
  rw [← hw2] at hb
  obtain ⟨g, hg⟩ : ∃ g, g = w1.heap.size := ⟨_, rfl⟩
  rw [← hg] at hb
  have hL2 := hL.kept k2
  have HE : Hid (Ev w w w2) := Ev.of_kp (k1.trans k2 (fun y hy => by simp at hy))
  go_wp2_with fail
  rw [← hw2, ← hg]
  clear hw2 hL k2 k1 hg
  go_loopw [9] (fun i wr => ∃ k : Nat, k ≤ 4 ∧ i = .int .i64 k ∧ Li w wr q ((List.range k).map kn4) ∧ Ev w w wr ∧ wr.heap[g]? = some (.cells #[.string ⟨#[104, 116, 109, 108]⟩, .string ⟨#[98, 111, 100, 121]⟩, .string ⟨#[112]⟩, .string ⟨#[108, 105]⟩] 9 (0, 0))) (fun i _ => 4 - (intOf i).toNat)
  case atStart => exact ⟨0, by omega, rfl, hL2, HE.out, hb⟩
  case round =>
    obtain ⟨k, hk, rfl, hr, er, hg⟩ := hrel
    clear hL2 HE hb
    have HR : Hid (Ev w w wr) := er
    have HP : Hid (∀ x, Calls Try.prog 19 #[.pointer (some ⟨q, 0, none⟩), iv x] wr fun e w' => e = .returned (.tuple #[]) ∧ Li w w' q ((List.range k).map kn4 ++ [x]) ∧ Ev w w w' ∧ w'.heap[g]? = some (.cells #[.string ⟨#[104, 116, 109, 108]⟩, .string ⟨#[98, 111, 100, 121]⟩, .string ⟨#[112]⟩, .string ⟨#[108, 105]⟩] 9 (0, 0))) := fun x =>
      (push_list w wr q _ x hr (by simp; omega)).mono (fun e w' ⟨e1, e2, e3⟩ => ⟨e1, e2, er.trans e3, e3.cells _ _ _ hg not_pil_string⟩)
    obtain rfl | rfl | rfl | rfl | rfl : k = 0 ∨ k = 1 ∨ k = 2 ∨ k = 3 ∨ k = 4 := by omega
    · have c := cell_of hg 0
      simp at c
      have H := HP.out (kn4 0)
      unfold iv kn4 at H
      simp only at H
      clear HP hg hr er
      go_wp2_with fail
      refine H.mono ?_
      rintro e w3 ⟨rfl, r1, r2, r3⟩
      have R : Hid (Li w w3 q ((List.range 1).map kn4)) := r1
      clear H r1 HR
      go_wp2
      go_roundw
      case rel => exact ⟨1, by omega, by first | rfl | go_num, R.out, r2, r3⟩
      case measure => simp [intOf]
    · have c := cell_of hg 1
      simp at c
      have H := HP.out (kn4 1)
      unfold iv kn4 at H
      simp only at H
      clear HP hg hr er
      go_wp2_with fail
      refine H.mono ?_
      rintro e w3 ⟨rfl, r1, r2, r3⟩
      have R : Hid (Li w w3 q ((List.range 2).map kn4)) := r1
      clear H r1 HR
      go_wp2
      go_roundw
      case rel => exact ⟨2, by omega, by first | rfl | go_num, R.out, r2, r3⟩
      case measure => simp [intOf]
    · have c := cell_of hg 2
      simp at c
      have H := HP.out (kn4 2)
      unfold iv kn4 at H
      simp only at H
      clear HP hg hr er
      go_wp2_with fail
      refine H.mono ?_
      rintro e w3 ⟨rfl, r1, r2, r3⟩
      have R : Hid (Li w w3 q ((List.range 3).map kn4)) := r1
      clear H r1 HR
      go_wp2
      go_roundw
      case rel => exact ⟨3, by omega, by first | rfl | go_num, R.out, r2, r3⟩
      case measure => simp [intOf]
    · have c := cell_of hg 3
      simp at c
      have H := HP.out (kn4 3)
      unfold iv kn4 at H
      simp only at H
      clear HP hg hr er
      go_wp2_with fail
      refine H.mono ?_
      rintro e w3 ⟨rfl, r1, r2, r3⟩
      have R : Hid (Li w w3 q ((List.range 4).map kn4)) := r1
      clear H r1 HR
      go_wp2
      go_roundw
      case rel => exact ⟨4, by omega, by first | rfl | go_num, R.out, r2, r3⟩
      case measure => simp [intOf]
    · have HI := imply_list w wr q _ ⟨#[108, 105]⟩ hr (by simp)
      have e0 : popW (goI ⟨#[108, 105]⟩) ((List.range 4).map kn4) = (List.range 4).map kn4 := by kernel_rfl
      rw [e0] at HI
      clear HP hr er hg e0
      go_wp2_with fail
      refine HI.mono ?_
      rintro e w3 ⟨rfl, r1, r2⟩
      have hL3 := r1
      have HE3 : Hid (Ev w w w3) := HR.out.trans r2
      have HLn := len_list w w3 q _ r1
      rw [show (((List.range 4).map kn4).length : Int) = 4 from rfl] at HLn
      have HS := scope_list w (w3.alloc (.cells #[.string ⟨#[112]⟩] 9)) q _ 1 [⟨#[112]⟩] _ 1 1 (r1.kept ((Kp.refl _ _).alloc _)) (rb_lit w3 9 #[.string ⟨#[112]⟩] _ 1 rfl rfl (by omega)) (by omega) (by simp)
      rw [show scp 1 [⟨#[112]⟩] ((List.range 4).map kn4) = true by kernel_rfl] at HS
      have HH : Hid (∀ W, Kp [] w3 W → Calls Try.prog 21 #[.pointer (some ⟨q, 0, none⟩), .string ⟨#[98, 111, 100, 121]⟩] W fun e w' => e = .returned (.bool true) ∧ w' = W) := fun W kW => by
        have := has_list w W q _ ⟨#[98, 111, 100, 121]⟩ (hL3.kept kW) (by simp)
        rw [show hasN ⟨#[98, 111, 100, 121]⟩ ((List.range 4).map kn4) = true by kernel_rfl] at this
        exact this
      have HQ : Hid (∀ W, Kp [] w3 W → Calls Try.prog 43 #[.pointer (some ⟨q, 0, none⟩), .int .i64 2] W fun e w' => e = .returned (.int .i64 2) ∧ Kp [] W w') := fun W kW => by
        have := place_list w W q _ 2 (hL3.kept kW) (by simp)
        rw [show plc (eqh 2) ((List.range 4).map kn4) = 2 by kernel_rfl] at this
        exact this
      clear r1 r2 HI hL3 HR
      go_wp2_with (first | (go_at_call 27; refine (HLn).mono ?_; rintro e w9 ⟨rfl, hw⟩; have hw2 := hw.symm; clear hw; subst hw2))
      refine HS.mono ?_
      rintro e w4 ⟨rfl, k4⟩
      have K4 : Hid (Kp [] w3 w4) := ((Kp.refl [] w3).alloc _).trans k4 (fun y hy => by simp at hy)
      have H5 := HH.out w4 K4.out
      clear HS HH k4
      go_wp2_with (first | (go_at_call 21; refine (H5).mono ?_; rintro e w9 ⟨rfl, hw⟩; have hw2 := hw.symm; clear hw; subst hw2))
      have H6 := HQ.out w4 K4.out
      clear HQ H5
      refine H6.mono ?_
      rintro e w5 ⟨rfl, k5⟩
      have K5 : Hid (Kp [] w w5) := (HE3.out.kp (Kp.refl _ _)).trans (K4.out.trans k5 (fun y hy => by simp at hy)) (fun y hy => by simp at hy)
      clear H6 k5 K4 HE3
      go_wp2
      go_ret
      exact ⟨rfl, K5.out⟩

end Go.Proofs.Ytpadnfpifldoaaa.Ints
