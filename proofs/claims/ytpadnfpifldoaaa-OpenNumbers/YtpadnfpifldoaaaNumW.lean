/-
  OpenNumbers.
-/
import Derived.Test.YtpadnfpifldoaaaDow
import Derived.Test.YtpadnfpifldoaaaAin
namespace Go.Proofs.Ytpadnfpifldoaaa.Ints
open Go.RowKit
set_option linter.unusedSimpArgs false
set_option linter.unusedVariables false

/-- The asks of the law, one after the other. -/
def nF (k n : Int) (s : Bool) : Nat → Ask
  | 0 => (1, 1, 0, 0, false)
  | 1 => (1, 2, n, 0, s)
  | 2 => (1, 3, 1, 0, false)
  | 3 => (10, k, 0, 2, false)
  | 4 => (7, 0, 0, 0, false)
  | 5 => (8, 0, 0, 0, false)
  | 6 => (2, 0, 0, 0, false)
  | 7 => (7, 0, 9, 0, false)
  | 8 => (8, 0, 0, 0, false)
  | 9 => (9, 0, 0, 6, false)
  | _ => (6, 0, n, 3, false)

theorem nF_as {w : World} {g : Nat} (k n : Int) (s : Bool) (h : w.heap[g]? = some (.cells #[.int .i64 1, .int .i64 1, .int .i64 0, .int .i64 0, .bool false, .int .i64 1, .int .i64 2, .int .i64 n, .int .i64 0, .bool s, .int .i64 1, .int .i64 3, .int .i64 1, .int .i64 0, .bool false, .int .i64 10, .int .i64 k, .int .i64 0, .int .i64 2, .bool false, .int .i64 7, .int .i64 0, .int .i64 0, .int .i64 0, .bool false, .int .i64 8, .int .i64 0, .int .i64 0, .int .i64 0, .bool false, .int .i64 2, .int .i64 0, .int .i64 0, .int .i64 0, .bool false, .int .i64 7, .int .i64 0, .int .i64 9, .int .i64 0, .bool false, .int .i64 8, .int .i64 0, .int .i64 0, .int .i64 0, .bool false, .int .i64 9, .int .i64 0, .int .i64 0, .int .i64 6, .bool false, .int .i64 6, .int .i64 0, .int .i64 n, .int .i64 3, .bool false] 26 (0, 0))) : As w (some ⟨g, 0, none⟩) 11 11 (nF k n s) := by
  refine ⟨Nat.le_refl _, fun i hi => ?_⟩
  rcases (show i = 0 ∨ i = 1 ∨ i = 2 ∨ i = 3 ∨ i = 4 ∨ i = 5 ∨ i = 6 ∨ i = 7 ∨ i = 8 ∨ i = 9 ∨ i = 10 by omega) with rfl | rfl | rfl | rfl | rfl | rfl | rfl | rfl | rfl | rfl | rfl
  · exact ⟨g, 0, rfl, cell_of h 0, cell_of h 1, cell_of h 2, cell_of h 3, cell_of h 4⟩
  · exact ⟨g, 0, rfl, cell_of h 5, cell_of h 6, cell_of h 7, cell_of h 8, cell_of h 9⟩
  · exact ⟨g, 0, rfl, cell_of h 10, cell_of h 11, cell_of h 12, cell_of h 13, cell_of h 14⟩
  · exact ⟨g, 0, rfl, cell_of h 15, cell_of h 16, cell_of h 17, cell_of h 18, cell_of h 19⟩
  · exact ⟨g, 0, rfl, cell_of h 20, cell_of h 21, cell_of h 22, cell_of h 23, cell_of h 24⟩
  · exact ⟨g, 0, rfl, cell_of h 25, cell_of h 26, cell_of h 27, cell_of h 28, cell_of h 29⟩
  · exact ⟨g, 0, rfl, cell_of h 30, cell_of h 31, cell_of h 32, cell_of h 33, cell_of h 34⟩
  · exact ⟨g, 0, rfl, cell_of h 35, cell_of h 36, cell_of h 37, cell_of h 38, cell_of h 39⟩
  · exact ⟨g, 0, rfl, cell_of h 40, cell_of h 41, cell_of h 42, cell_of h 43, cell_of h 44⟩
  · exact ⟨g, 0, rfl, cell_of h 45, cell_of h 46, cell_of h 47, cell_of h 48, cell_of h 49⟩
  · exact ⟨g, 0, rfl, cell_of h 50, cell_of h 51, cell_of h 52, cell_of h 53, cell_of h 54⟩

set_option maxRecDepth 100000 in
set_option maxHeartbeats 4000000 in
theorem numbers_walk (w : World) : Calls Try.prog 3 #[] w fun e w' => e = .returned (.bool true) ∧ Kp [] w w' := by
  go_enter Try.func3, Try.ntmps3
  go_wp2
  go_loopw [1] (fun i wr => ∃ k : Nat, k ≤ 6 ∧ i = .int .i64 k ∧ Kp [] w wr) (fun i _ => 6 - (intOf i).toNat)
  case atStart => exact ⟨0, by omega, rfl, Kp.refl _ _⟩
  case round =>
    obtain ⟨k, hk, rfl, ka⟩ := hrel
    by_cases hkl : k < 6
    · have KA : Hid (Kp [] w wr) := ka
      have hk6 : (k : Int) < 6 := by omega
      obtain ⟨wa, hwa⟩ : ∃ x, x = wr := ⟨_, rfl⟩
      subst hwa
      clear ka
      go_wp2
      go_loopw [2] (fun i wb => ∃ n : Nat, n ≤ 48 ∧ i = .int .i64 n ∧ Kp [] w wb) (fun i _ => 48 - (intOf i).toNat)
      case atStart => exact ⟨0, by omega, rfl, KA.out⟩
      case round =>
        obtain ⟨n, hn, rfl, kb⟩ := hrel
        clear KA
        by_cases hnl : n < 48
        · have KB : Hid (Kp [] w wr) := kb
          have hn8 : (n : Int) < 48 := by omega
          obtain ⟨wb, hwb⟩ : ∃ x, x = wr := ⟨_, rfl⟩
          subst hwb
          clear kb
          go_wp2
          go_loopw [3] (fun i wc => ∃ s : Nat, s ≤ 2 ∧ i = .int .i64 s ∧ Kp [] w wc) (fun i _ => 2 - (intOf i).toNat)
          case atStart => exact ⟨0, by omega, rfl, KB.out⟩
          case round =>
            obtain ⟨s, hs, rfl, kc⟩ := hrel
            clear KB
            obtain ⟨wc, hwc⟩ : ∃ x, x = wr := ⟨_, rfl⟩
            subst hwc
            have H1 := new_list w _ kc.size
            have KC : Hid (Kp [] w _) := kc
            clear kc
            rcases (show s = 2 ∨ s = 0 ∨ s = 1 by omega) with rfl | rfl | rfl
            · clear H1
              go_wp2
              go_roundw
              case rel => exact ⟨n + 1, by omega, by go_num, KC.out⟩
              case measure => simp [intOf]; omega
            · go_wp2_with fail
              refine H1.mono ?_
              rintro e w1 ⟨q, rfl, hL, k1⟩
              have K1 : Hid (Kp [] w w1) := kt KC.out k1
              clear H1 k1 KC
              obtain ⟨w2, hw2⟩ : ∃ w2, w2 = w1.alloc (.cells #[.int .i64 1, .int .i64 1, .int .i64 0, .int .i64 0, .bool false, .int .i64 1, .int .i64 2, .int .i64 (n : Int), .int .i64 0, .bool false, .int .i64 1, .int .i64 3, .int .i64 1, .int .i64 0, .bool false, .int .i64 10, .int .i64 (k : Int), .int .i64 0, .int .i64 2, .bool false, .int .i64 7, .int .i64 0, .int .i64 0, .int .i64 0, .bool false, .int .i64 8, .int .i64 0, .int .i64 0, .int .i64 0, .bool false, .int .i64 2, .int .i64 0, .int .i64 0, .int .i64 0, .bool false, .int .i64 7, .int .i64 0, .int .i64 9, .int .i64 0, .bool false, .int .i64 8, .int .i64 0, .int .i64 0, .int .i64 0, .bool false, .int .i64 9, .int .i64 0, .int .i64 0, .int .i64 6, .bool false, .int .i64 6, .int .i64 0, .int .i64 (n : Int), .int .i64 3, .bool false] 26) := ⟨_, rfl⟩
              have k2 : Kp [] w1 w2 := by rw [hw2]; exact (Kp.refl _ _).alloc _
              have hb : w2.heap[w1.heap.size]? = some (.cells #[.int .i64 1, .int .i64 1, .int .i64 0, .int .i64 0, .bool false, .int .i64 1, .int .i64 2, .int .i64 (n : Int), .int .i64 0, .bool false, .int .i64 1, .int .i64 3, .int .i64 1, .int .i64 0, .bool false, .int .i64 10, .int .i64 (k : Int), .int .i64 0, .int .i64 2, .bool false, .int .i64 7, .int .i64 0, .int .i64 0, .int .i64 0, .bool false, .int .i64 8, .int .i64 0, .int .i64 0, .int .i64 0, .bool false, .int .i64 2, .int .i64 0, .int .i64 0, .int .i64 0, .bool false, .int .i64 7, .int .i64 0, .int .i64 9, .int .i64 0, .bool false, .int .i64 8, .int .i64 0, .int .i64 0, .int .i64 0, .bool false, .int .i64 9, .int .i64 0, .int .i64 0, .int .i64 6, .bool false, .int .i64 6, .int .i64 0, .int .i64 (n : Int), .int .i64 3, .bool false] 26 (0, 0)) := by rw [hw2]; exact heap_new _ _
              have HB : Hid (w2.heap[w1.heap.size]? = some (.cells #[.int .i64 1, .int .i64 1, .int .i64 0, .int .i64 0, .bool false, .int .i64 1, .int .i64 2, .int .i64 (n : Int), .int .i64 0, .bool false, .int .i64 1, .int .i64 3, .int .i64 1, .int .i64 0, .bool false, .int .i64 10, .int .i64 (k : Int), .int .i64 0, .int .i64 2, .bool false, .int .i64 7, .int .i64 0, .int .i64 0, .int .i64 0, .bool false, .int .i64 8, .int .i64 0, .int .i64 0, .int .i64 0, .bool false, .int .i64 2, .int .i64 0, .int .i64 0, .int .i64 0, .bool false, .int .i64 7, .int .i64 0, .int .i64 9, .int .i64 0, .bool false, .int .i64 8, .int .i64 0, .int .i64 0, .int .i64 0, .bool false, .int .i64 9, .int .i64 0, .int .i64 0, .int .i64 6, .bool false, .int .i64 6, .int .i64 0, .int .i64 (n : Int), .int .i64 3, .bool false] 26 (0, 0))) := hb
              have L2 : Hid (Li w w2 q []) := hL.kept k2
              have K2 : Hid (Kp [] w w2) := kt K1.out k2
              obtain ⟨g, hg⟩ : ∃ g, g = w1.heap.size := ⟨_, rfl⟩
              rw [← hg] at HB
              clear hL K1 k2 hb
              go_wp2_with fail
              rw [← hw2, ← hg]
              clear hw2 hg
              go_loopw [5, 6, 42] (fun l ok i wr => ∃ j : Nat, ∃ zs : List It, ∃ bo n' d, j ≤ 11 ∧ zs.length ≤ j ∧ l = .slice bo n' d ∧ ok = .bool true ∧ i = .int .i64 j ∧ Li w wr q zs ∧ Kp [] w wr ∧ Rs wr bo n' d zs ∧ wr.heap[g]? = some (.cells #[.int .i64 1, .int .i64 1, .int .i64 0, .int .i64 0, .bool false, .int .i64 1, .int .i64 2, .int .i64 (n : Int), .int .i64 0, .bool false, .int .i64 1, .int .i64 3, .int .i64 1, .int .i64 0, .bool false, .int .i64 10, .int .i64 (k : Int), .int .i64 0, .int .i64 2, .bool false, .int .i64 7, .int .i64 0, .int .i64 0, .int .i64 0, .bool false, .int .i64 8, .int .i64 0, .int .i64 0, .int .i64 0, .bool false, .int .i64 2, .int .i64 0, .int .i64 0, .int .i64 0, .bool false, .int .i64 7, .int .i64 0, .int .i64 9, .int .i64 0, .bool false, .int .i64 8, .int .i64 0, .int .i64 0, .int .i64 0, .bool false, .int .i64 9, .int .i64 0, .int .i64 0, .int .i64 6, .bool false, .int .i64 6, .int .i64 0, .int .i64 (n : Int), .int .i64 3, .bool false] 26 (0, 0))) (fun _ _ i _ => 11 - (intOf i).toNat)
              case atStart => exact ⟨0, [], none, 0, 0, by omega, Nat.le_refl _, rfl, rfl, rfl, L2.out, K2.out, Rs.nil _, HB.out⟩
              case round =>
                obtain ⟨j, zs, bo, n', d, hj, hz, rfl, rfl, rfl, hr, kr, hm, hbr⟩ := hrel
                clear L2 K2 HB
                by_cases hjl : j < 11
                · obtain ⟨b, off, hbo, c0, c1, c2, c3, c4⟩ := (nF_as (k : Int) (n : Int) false hbr).2 j hjl
                  simp only [Option.some.injEq, Addr.mk.injEq, and_true] at hbo
                  obtain ⟨rfl, rfl⟩ := hbo
                  have HD : ∀ a : Ask, Hid (∀ W, Kp [] wr W → Calls Try.prog 9 #[.pointer (some ⟨q, 0, none⟩), .slice bo n' d, av a] W (Dn w W q zs)) := fun a W kW => do_any w W q zs bo n' d a (hr.kept kW) (hm.kept kW) (by omega)
                  have HD := HD (nF (k : Int) (n : Int) false j)
                  generalize nF (k : Int) (n : Int) false j = a at c0 c1 c2 c3 c4 HD
                  obtain ⟨kd, H, N, M, sv⟩ := a
                  simp only [Nat.zero_add] at c0 c1 c2 c3 c4
                  unfold av at HD
                  simp only at HD
                  obtain ⟨wA, hwA⟩ : ∃ wA, wA = wr.alloc (.cells #[.int .i64 kd, .int .i64 H, .int .i64 N, .int .i64 M, .bool sv] 26) := ⟨_, rfl⟩
                  have kA : Kp [] wr wA := by rw [hwA]; exact (Kp.refl _ _).alloc _
                  have HDA := HD.out wA kA
                  have HR : Hid (∀ W, Ev w wA W → Kp [] w W ∧ W.heap[g]? = some (.cells #[.int .i64 1, .int .i64 1, .int .i64 0, .int .i64 0, .bool false, .int .i64 1, .int .i64 2, .int .i64 (n : Int), .int .i64 0, .bool false, .int .i64 1, .int .i64 3, .int .i64 1, .int .i64 0, .bool false, .int .i64 10, .int .i64 (k : Int), .int .i64 0, .int .i64 2, .bool false, .int .i64 7, .int .i64 0, .int .i64 0, .int .i64 0, .bool false, .int .i64 8, .int .i64 0, .int .i64 0, .int .i64 0, .bool false, .int .i64 2, .int .i64 0, .int .i64 0, .int .i64 0, .bool false, .int .i64 7, .int .i64 0, .int .i64 9, .int .i64 0, .bool false, .int .i64 8, .int .i64 0, .int .i64 0, .int .i64 0, .bool false, .int .i64 9, .int .i64 0, .int .i64 0, .int .i64 6, .bool false, .int .i64 6, .int .i64 0, .int .i64 (n : Int), .int .i64 3, .bool false] 26 (0, 0))) := fun W e => ⟨e.kp (kt kr kA), e.cells _ _ _ ((kA.block _ (lt_of hbr) (by simp)).trans hbr) not_pil_ask⟩
                  have HZ : Hid (zs.length ≤ j) := hz
                  clear hr kr hm hbr hz HD kA
                  go_wp2_with fail
                  rw [← hwA]
                  clear hwA
                  refine HDA.mono ?_
                  rintro e w5 ⟨bo3, n3, d3, zs3, rfl, l3, z3, e3, b3⟩
                  have H3 : Hid (Li w w5 q zs3 ∧ Kp [] w w5 ∧ Rs w5 bo3 n3 d3 zs3 ∧ zs3.length ≤ j + 1 ∧ w5.heap[g]? = some (.cells #[.int .i64 1, .int .i64 1, .int .i64 0, .int .i64 0, .bool false, .int .i64 1, .int .i64 2, .int .i64 (n : Int), .int .i64 0, .bool false, .int .i64 1, .int .i64 3, .int .i64 1, .int .i64 0, .bool false, .int .i64 10, .int .i64 (k : Int), .int .i64 0, .int .i64 2, .bool false, .int .i64 7, .int .i64 0, .int .i64 0, .int .i64 0, .bool false, .int .i64 8, .int .i64 0, .int .i64 0, .int .i64 0, .bool false, .int .i64 2, .int .i64 0, .int .i64 0, .int .i64 0, .bool false, .int .i64 7, .int .i64 0, .int .i64 9, .int .i64 0, .bool false, .int .i64 8, .int .i64 0, .int .i64 0, .int .i64 0, .bool false, .int .i64 9, .int .i64 0, .int .i64 0, .int .i64 6, .bool false, .int .i64 6, .int .i64 0, .int .i64 (n : Int), .int .i64 3, .bool false] 26 (0, 0))) := ⟨l3, (HR.out w5 e3).1, z3, by have := HZ.out; omega, (HR.out w5 e3).2⟩
                  clear l3 z3 e3 b3 HDA HR HZ
                  go_wp2
                  go_roundw
                  case rel => exact ⟨j + 1, zs3, bo3, n3, d3, by omega, H3.out.2.2.2.1, by go_num, by go_num, by go_num, H3.out.1, H3.out.2.1, H3.out.2.2.1, H3.out.2.2.2.2⟩
                  case measure => simp [intOf]; omega
                · have KX : Hid (Kp [] w wr) := kr
                  obtain rfl : j = 11 := by omega
                  clear hr kr hm hbr hz
                  go_wp2
                  go_roundw
                  case rel => exact ⟨1, by omega, by go_num, KX.out⟩
                  case measure => simp [intOf]
            · go_wp2_with fail
              refine H1.mono ?_
              rintro e w1 ⟨q, rfl, hL, k1⟩
              have K1 : Hid (Kp [] w w1) := kt KC.out k1
              clear H1 k1 KC
              obtain ⟨w2, hw2⟩ : ∃ w2, w2 = w1.alloc (.cells #[.int .i64 1, .int .i64 1, .int .i64 0, .int .i64 0, .bool false, .int .i64 1, .int .i64 2, .int .i64 (n : Int), .int .i64 0, .bool true, .int .i64 1, .int .i64 3, .int .i64 1, .int .i64 0, .bool false, .int .i64 10, .int .i64 (k : Int), .int .i64 0, .int .i64 2, .bool false, .int .i64 7, .int .i64 0, .int .i64 0, .int .i64 0, .bool false, .int .i64 8, .int .i64 0, .int .i64 0, .int .i64 0, .bool false, .int .i64 2, .int .i64 0, .int .i64 0, .int .i64 0, .bool false, .int .i64 7, .int .i64 0, .int .i64 9, .int .i64 0, .bool false, .int .i64 8, .int .i64 0, .int .i64 0, .int .i64 0, .bool false, .int .i64 9, .int .i64 0, .int .i64 0, .int .i64 6, .bool false, .int .i64 6, .int .i64 0, .int .i64 (n : Int), .int .i64 3, .bool false] 26) := ⟨_, rfl⟩
              have k2 : Kp [] w1 w2 := by rw [hw2]; exact (Kp.refl _ _).alloc _
              have hb : w2.heap[w1.heap.size]? = some (.cells #[.int .i64 1, .int .i64 1, .int .i64 0, .int .i64 0, .bool false, .int .i64 1, .int .i64 2, .int .i64 (n : Int), .int .i64 0, .bool true, .int .i64 1, .int .i64 3, .int .i64 1, .int .i64 0, .bool false, .int .i64 10, .int .i64 (k : Int), .int .i64 0, .int .i64 2, .bool false, .int .i64 7, .int .i64 0, .int .i64 0, .int .i64 0, .bool false, .int .i64 8, .int .i64 0, .int .i64 0, .int .i64 0, .bool false, .int .i64 2, .int .i64 0, .int .i64 0, .int .i64 0, .bool false, .int .i64 7, .int .i64 0, .int .i64 9, .int .i64 0, .bool false, .int .i64 8, .int .i64 0, .int .i64 0, .int .i64 0, .bool false, .int .i64 9, .int .i64 0, .int .i64 0, .int .i64 6, .bool false, .int .i64 6, .int .i64 0, .int .i64 (n : Int), .int .i64 3, .bool false] 26 (0, 0)) := by rw [hw2]; exact heap_new _ _
              have HB : Hid (w2.heap[w1.heap.size]? = some (.cells #[.int .i64 1, .int .i64 1, .int .i64 0, .int .i64 0, .bool false, .int .i64 1, .int .i64 2, .int .i64 (n : Int), .int .i64 0, .bool true, .int .i64 1, .int .i64 3, .int .i64 1, .int .i64 0, .bool false, .int .i64 10, .int .i64 (k : Int), .int .i64 0, .int .i64 2, .bool false, .int .i64 7, .int .i64 0, .int .i64 0, .int .i64 0, .bool false, .int .i64 8, .int .i64 0, .int .i64 0, .int .i64 0, .bool false, .int .i64 2, .int .i64 0, .int .i64 0, .int .i64 0, .bool false, .int .i64 7, .int .i64 0, .int .i64 9, .int .i64 0, .bool false, .int .i64 8, .int .i64 0, .int .i64 0, .int .i64 0, .bool false, .int .i64 9, .int .i64 0, .int .i64 0, .int .i64 6, .bool false, .int .i64 6, .int .i64 0, .int .i64 (n : Int), .int .i64 3, .bool false] 26 (0, 0))) := hb
              have L2 : Hid (Li w w2 q []) := hL.kept k2
              have K2 : Hid (Kp [] w w2) := kt K1.out k2
              obtain ⟨g, hg⟩ : ∃ g, g = w1.heap.size := ⟨_, rfl⟩
              rw [← hg] at HB
              clear hL K1 k2 hb
              go_wp2_with fail
              rw [← hw2, ← hg]
              clear hw2 hg
              go_loopw [5, 6, 42] (fun l ok i wr => ∃ j : Nat, ∃ zs : List It, ∃ bo n' d, j ≤ 11 ∧ zs.length ≤ j ∧ l = .slice bo n' d ∧ ok = .bool true ∧ i = .int .i64 j ∧ Li w wr q zs ∧ Kp [] w wr ∧ Rs wr bo n' d zs ∧ wr.heap[g]? = some (.cells #[.int .i64 1, .int .i64 1, .int .i64 0, .int .i64 0, .bool false, .int .i64 1, .int .i64 2, .int .i64 (n : Int), .int .i64 0, .bool true, .int .i64 1, .int .i64 3, .int .i64 1, .int .i64 0, .bool false, .int .i64 10, .int .i64 (k : Int), .int .i64 0, .int .i64 2, .bool false, .int .i64 7, .int .i64 0, .int .i64 0, .int .i64 0, .bool false, .int .i64 8, .int .i64 0, .int .i64 0, .int .i64 0, .bool false, .int .i64 2, .int .i64 0, .int .i64 0, .int .i64 0, .bool false, .int .i64 7, .int .i64 0, .int .i64 9, .int .i64 0, .bool false, .int .i64 8, .int .i64 0, .int .i64 0, .int .i64 0, .bool false, .int .i64 9, .int .i64 0, .int .i64 0, .int .i64 6, .bool false, .int .i64 6, .int .i64 0, .int .i64 (n : Int), .int .i64 3, .bool false] 26 (0, 0))) (fun _ _ i _ => 11 - (intOf i).toNat)
              case atStart => exact ⟨0, [], none, 0, 0, by omega, Nat.le_refl _, rfl, rfl, rfl, L2.out, K2.out, Rs.nil _, HB.out⟩
              case round =>
                obtain ⟨j, zs, bo, n', d, hj, hz, rfl, rfl, rfl, hr, kr, hm, hbr⟩ := hrel
                clear L2 K2 HB
                by_cases hjl : j < 11
                · obtain ⟨b, off, hbo, c0, c1, c2, c3, c4⟩ := (nF_as (k : Int) (n : Int) true hbr).2 j hjl
                  simp only [Option.some.injEq, Addr.mk.injEq, and_true] at hbo
                  obtain ⟨rfl, rfl⟩ := hbo
                  have HD : ∀ a : Ask, Hid (∀ W, Kp [] wr W → Calls Try.prog 9 #[.pointer (some ⟨q, 0, none⟩), .slice bo n' d, av a] W (Dn w W q zs)) := fun a W kW => do_any w W q zs bo n' d a (hr.kept kW) (hm.kept kW) (by omega)
                  have HD := HD (nF (k : Int) (n : Int) true j)
                  generalize nF (k : Int) (n : Int) true j = a at c0 c1 c2 c3 c4 HD
                  obtain ⟨kd, H, N, M, sv⟩ := a
                  simp only [Nat.zero_add] at c0 c1 c2 c3 c4
                  unfold av at HD
                  simp only at HD
                  obtain ⟨wA, hwA⟩ : ∃ wA, wA = wr.alloc (.cells #[.int .i64 kd, .int .i64 H, .int .i64 N, .int .i64 M, .bool sv] 26) := ⟨_, rfl⟩
                  have kA : Kp [] wr wA := by rw [hwA]; exact (Kp.refl _ _).alloc _
                  have HDA := HD.out wA kA
                  have HR : Hid (∀ W, Ev w wA W → Kp [] w W ∧ W.heap[g]? = some (.cells #[.int .i64 1, .int .i64 1, .int .i64 0, .int .i64 0, .bool false, .int .i64 1, .int .i64 2, .int .i64 (n : Int), .int .i64 0, .bool true, .int .i64 1, .int .i64 3, .int .i64 1, .int .i64 0, .bool false, .int .i64 10, .int .i64 (k : Int), .int .i64 0, .int .i64 2, .bool false, .int .i64 7, .int .i64 0, .int .i64 0, .int .i64 0, .bool false, .int .i64 8, .int .i64 0, .int .i64 0, .int .i64 0, .bool false, .int .i64 2, .int .i64 0, .int .i64 0, .int .i64 0, .bool false, .int .i64 7, .int .i64 0, .int .i64 9, .int .i64 0, .bool false, .int .i64 8, .int .i64 0, .int .i64 0, .int .i64 0, .bool false, .int .i64 9, .int .i64 0, .int .i64 0, .int .i64 6, .bool false, .int .i64 6, .int .i64 0, .int .i64 (n : Int), .int .i64 3, .bool false] 26 (0, 0))) := fun W e => ⟨e.kp (kt kr kA), e.cells _ _ _ ((kA.block _ (lt_of hbr) (by simp)).trans hbr) not_pil_ask⟩
                  have HZ : Hid (zs.length ≤ j) := hz
                  clear hr kr hm hbr hz HD kA
                  go_wp2_with fail
                  rw [← hwA]
                  clear hwA
                  refine HDA.mono ?_
                  rintro e w5 ⟨bo3, n3, d3, zs3, rfl, l3, z3, e3, b3⟩
                  have H3 : Hid (Li w w5 q zs3 ∧ Kp [] w w5 ∧ Rs w5 bo3 n3 d3 zs3 ∧ zs3.length ≤ j + 1 ∧ w5.heap[g]? = some (.cells #[.int .i64 1, .int .i64 1, .int .i64 0, .int .i64 0, .bool false, .int .i64 1, .int .i64 2, .int .i64 (n : Int), .int .i64 0, .bool true, .int .i64 1, .int .i64 3, .int .i64 1, .int .i64 0, .bool false, .int .i64 10, .int .i64 (k : Int), .int .i64 0, .int .i64 2, .bool false, .int .i64 7, .int .i64 0, .int .i64 0, .int .i64 0, .bool false, .int .i64 8, .int .i64 0, .int .i64 0, .int .i64 0, .bool false, .int .i64 2, .int .i64 0, .int .i64 0, .int .i64 0, .bool false, .int .i64 7, .int .i64 0, .int .i64 9, .int .i64 0, .bool false, .int .i64 8, .int .i64 0, .int .i64 0, .int .i64 0, .bool false, .int .i64 9, .int .i64 0, .int .i64 0, .int .i64 6, .bool false, .int .i64 6, .int .i64 0, .int .i64 (n : Int), .int .i64 3, .bool false] 26 (0, 0))) := ⟨l3, (HR.out w5 e3).1, z3, by have := HZ.out; omega, (HR.out w5 e3).2⟩
                  clear l3 z3 e3 b3 HDA HR HZ
                  go_wp2
                  go_roundw
                  case rel => exact ⟨j + 1, zs3, bo3, n3, d3, by omega, H3.out.2.2.2.1, by go_num, by go_num, by go_num, H3.out.1, H3.out.2.1, H3.out.2.2.1, H3.out.2.2.2.2⟩
                  case measure => simp [intOf]; omega
                · have KX : Hid (Kp [] w wr) := kr
                  obtain rfl : j = 11 := by omega
                  clear hr kr hm hbr hz
                  go_wp2
                  go_roundw
                  case rel => exact ⟨2, by omega, by go_num, KX.out⟩
                  case measure => simp [intOf]
        · obtain rfl : n = 48 := by omega
          have KB : Hid (Kp [] w wr) := kb
          clear kb
          go_wp2
          go_roundw
          case rel => exact ⟨k + 1, by omega, by go_num, KB.out⟩
          case measure => simp [intOf]; omega
    · obtain rfl : k = 6 := by omega
      have HKn := known_any wr
      have KA : Hid (Kp [] w wr) := ka
      clear ka
      go_wp2_with fail
      refine HKn.mono ?_
      rintro e w2 ⟨rfl, k2⟩
      have KZ : Hid (Kp [] w w2) := kt KA.out k2
      clear k2 KA HKn
      go_wp2
      go_ret
      exact ⟨rfl, KZ.out⟩

end Go.Proofs.Ytpadnfpifldoaaa.Ints
