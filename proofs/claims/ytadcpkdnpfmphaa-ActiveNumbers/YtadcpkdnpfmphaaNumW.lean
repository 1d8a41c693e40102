/-
  ActiveNumbers.
-/
import Derived.Test.YtadcpkdnpfmphaaDow
import Derived.Test.YtadcpkdnpfmphaaKn
namespace Go.Proofs.Ytadcpkdnpfmphaa.Ints
open Go.RowKit
set_option linter.unusedSimpArgs false
set_option linter.unusedVariables false

def aA : Att := (⟨#[97]⟩, ⟨#[49]⟩)
def aB : Att := (⟨#[98]⟩, ⟨#[50]⟩)

/-- Two attributes, the other way round. -/
theorem swap_put (w3 wA : World) (ga : Nat) (k : Kp [] w3 wA) (h : wA.heap[ga]? = some (.cells #[.string ⟨#[97]⟩, .string ⟨#[49]⟩, .string ⟨#[98]⟩, .string ⟨#[50]⟩] 31 (0, 0))) (hn : w3.heap.size ≤ ga) (W : World)
    (hW : W = ((((wA.setCell ⟨ga, 0, none⟩ (.string ⟨#[98]⟩)).setCell ⟨ga, 1, none⟩ (.string ⟨#[50]⟩)).setCell ⟨ga, 2, none⟩ (.string ⟨#[97]⟩)).setCell ⟨ga, 3, none⟩ (.string ⟨#[49]⟩)).drew) :
    Kp [] w3 W ∧ W.heap[ga]? = some (.cells #[.string ⟨#[98]⟩, .string ⟨#[50]⟩, .string ⟨#[97]⟩, .string ⟨#[49]⟩] 31 (0, 0)) := by
  subst hW
  refine ⟨(Kp.setCell (Kp.setCell (Kp.setCell (Kp.setCell k (Or.inr hn) _) (Or.inr hn) _) (Or.inr hn) _) (Or.inr hn) _).drew, ?_⟩
  show (((wA.setCell ⟨ga, 0, none⟩ (.string ⟨#[98]⟩)).setCell ⟨ga, 1, none⟩ (.string ⟨#[50]⟩)).setCell ⟨ga, 2, none⟩ (.string ⟨#[97]⟩)).setCell ⟨ga, 3, none⟩ (.string ⟨#[49]⟩) |>.heap[ga]? = _
  exact setCell_block (setCell_block (setCell_block (setCell_block h 0 _) 1 _) 2 _) 3 _

theorem rp_block (W : World) (ga : Nat) (cur : Array Value) (h : W.heap[ga]? = some (.cells cur 31 (0, 0))) (l : List Att) (n c : Nat) (hn : n = l.length) (hc : n ≤ c) (hl : ∀ j, j < n * 2 → cur[j]? = (cs l)[j]?) : Rp W (some ⟨ga, 0, none⟩) n c l :=
  ⟨hn, hc, fun j hj => ⟨ga, 0, rfl, by rw [Nat.zero_add, cell_of h, hl j hj]⟩⟩

set_option maxRecDepth 100000 in
set_option maxHeartbeats 4000000 in
theorem numbers_walk (w : World) : Calls Try.prog 3 #[] w fun e w' => e = .returned (.bool true) ∧ Kp [] w w' := by
  go_enter Try.func3, Try.ntmps3
  go_wp2
  go_loopw [1] (fun i wr => ∃ k : Nat, k ≤ 6 ∧ i = .int .i64 (k : Int) ∧ Kp [] w wr) (fun i _ => 6 - (intOf i).toNat)
  case atStart => exact ⟨0, by omega, rfl, Kp.refl _ _⟩
  case round =>
    obtain ⟨k, hk, rfl, ka⟩ := hrel
    by_cases hkl : k < 6
    · have H1 := new_list w _ ka.size
      have KA : Hid (Kp [] w wr) := ka
      have hk6 : (k : Int) < 6 := by omega
      obtain ⟨wa, hwa⟩ : ∃ x, x = wr := ⟨_, rfl⟩
      subst hwa
      clear ka
      go_wp2_with fail
      refine H1.mono ?_
      rintro e w1 ⟨q, rfl, hL, k1⟩
      have K1 : Hid (Kp [] w w1) := kt KA.out k1
      have L1 : Hid (Li w w1 q [] []) := hL
      clear H1 KA k1 hL
      go_wp2
      go_loopw [3, 4, 5] (fun m ok i wr => ∃ (j : Nat) (zs : List Ent) (B : List Nat) (rl : List Raw) (bo : Option Addr) (n d : Nat), j ≤ 7 ∧ zs.length ≤ 2 * j ∧ m = .slice bo n d ∧ ok = .bool true ∧ i = .int .i64 (j : Int) ∧ Li w wr q B zs ∧ Kp [] w wr ∧ Ls wr bo n d rl zs ∧ Off B bo) (fun _ _ i _ => 7 - (intOf i).toNat)
      case atStart => exact ⟨0, [], [], [], none, 0, 0, by omega, by simp, rfl, rfl, rfl, L1.out, K1.out, Ls.nil _, off_nil _⟩
      case round =>
        obtain ⟨j, zs, B, rl, bo, n, d, hj, hz, rfl, rfl, rfl, hr, kr, hm, ho⟩ := hrel
        clear L1 K1
        by_cases hjl : j < 7
        · have hj7 : (j : Int) < 7 := by omega
          -- the marker
          have HMk : Hid (Calls Try.prog 8 #[.pointer (some ⟨q, 0, none⟩), .slice bo n d, askv (2, 0, 0, 0, (none, 0, 0), [])] wr (Dn w q zs)) := do_any w wr q B rl zs bo n d (2, 0, 0, 0, (none, 0, 0), []) hr hm ho kr ⟨⟨rfl, Nat.le_refl _, fun j hj => by simp at hj⟩, by simp⟩ (by omega)
          have ST : Hid (∃ (zs2 : List Ent) (B2 : List Nat) (rl2 : List Raw), zs2.length ≤ 2 * j + 1 ∧ Li w wr q B2 zs2 ∧ Kp [] w wr ∧ Ls wr bo n d rl2 zs2 ∧ Off B2 bo) := ⟨zs, B, rl, by omega, hr, kr, hm, ho⟩
          have HZ : Hid (zs.length ≤ 2 * j) := hz
          clear hr kr hm ho hz
          rcases (show ((j : Int) == (k : Int)) = true ∨ ((j : Int) == (k : Int)) = false from by cases ((j : Int) == (k : Int)) <;> simp) with hjk | hjk
          case' inl =>
            have HM2 := HMk.out
            unfold askv at HM2
            simp only at HM2
            clear HMk ST
            go_wp2_with fail
            refine HM2.mono ?_
            rintro e w3 ⟨b3, n3, d3, rl3, zs3, B3, rfl, l3, z3, o3, k3, h3⟩
            have ST : Hid (∃ (zs2 : List Ent) (B2 : List Nat) (rl2 : List Raw), zs2.length ≤ 2 * j + 1 ∧ Li w w3 q B2 zs2 ∧ Kp [] w w3 ∧ Ls w3 b3 n3 d3 rl2 zs2 ∧ Off B2 b3) := ⟨zs3, B3, rl3, by have := HZ.out; omega, l3, k3, z3, o3⟩
            clear l3 z3 o3 k3 h3 HM2 HZ
          case' inr =>
            clear HMk HZ
            obtain ⟨w3, hw3⟩ : ∃ x, x = wr := ⟨_, rfl⟩
            subst hw3
            obtain ⟨b3, hb3⟩ : ∃ x, x = bo := ⟨_, rfl⟩
            subst hb3
            obtain ⟨n3, hn3⟩ : ∃ x, x = n := ⟨_, rfl⟩
            subst hn3
            obtain ⟨d3, hd3⟩ : ∃ x, x = d := ⟨_, rfl⟩
            subst hd3
          all_goals
            go_upto_region 15 with fail
            obtain ⟨wA, hwA⟩ : ∃ x, x = w3.alloc (.cells #[.string ⟨#[97]⟩, .string ⟨#[49]⟩, .string ⟨#[98]⟩, .string ⟨#[50]⟩] 31) := ⟨_, rfl⟩
            have kA : Kp [] w3 wA := by rw [hwA]; exact (Kp.refl _ _).alloc _
            have hA : wA.heap[w3.heap.size]? = some (.cells #[.string ⟨#[97]⟩, .string ⟨#[49]⟩, .string ⟨#[98]⟩, .string ⟨#[50]⟩] 31 (0, 0)) := by rw [hwA]; exact heap_new _ _
            obtain ⟨ga, hga⟩ : ∃ g, g = w3.heap.size := ⟨_, rfl⟩
            rw [← hga] at hA
            have hgn : w3.heap.size ≤ ga := by omega
            rw [← hwA, ← hga]
            clear hwA hga
            have HP : Hid (∀ W n' al, Kp [] w3 W → Rp W (some ⟨ga, 0, none⟩) n' 2 al → n' ≤ 2 → Calls Try.prog 8 #[.pointer (some ⟨q, 0, none⟩), .slice b3 n3 d3, askv (1, (j : Int), 1, 0, (some ⟨ga, 0, none⟩, n', 2), al)] W fun e w' => ∃ b5 n5 d5, e = .returned (.tuple #[.slice b5 n5 d5, .bool true]) ∧ Hid (∃ (zs2 : List Ent) (B2 : List Nat) (rl2 : List Raw), zs2.length ≤ 2 * (j + 1) ∧ Li w w' q B2 zs2 ∧ Kp [] w w' ∧ Ls w' b5 n5 d5 rl2 zs2 ∧ Off B2 b5)) := fun W n' al kW hrp hn => by
              obtain ⟨zs2, B2, rl2, g1, g2, g3, g4, g5⟩ := ST.out
              refine (do_any w W q B2 rl2 zs2 b3 n3 d3 (1, (j : Int), 1, 0, (some ⟨ga, 0, none⟩, n', 2), al) (g2.kept kW) (g4.kept kW) g5 (kt g3 kW) ⟨hrp, by simp only; omega⟩ (by omega)).mono ?_
              rintro e w' ⟨b5, n5, d5, rl5, zs5, B5, rfl, l5, z5, o5, k5, h5⟩
              exact ⟨b5, n5, d5, rfl, zs5, B5, rl5, by omega, l5, k5, z5, o5⟩
            have c0 : wA.cell? ⟨ga, 0, none⟩ = some (.string ⟨#[97]⟩) := cell_of hA 0
            have c1 : wA.cell? ⟨ga, 1, none⟩ = some (.string ⟨#[49]⟩) := cell_of hA 1
            have c2 : wA.cell? ⟨ga, 2, none⟩ = some (.string ⟨#[98]⟩) := cell_of hA 2
            have c3 : wA.cell? ⟨ga, 3, none⟩ = some (.string ⟨#[50]⟩) := cell_of hA 3
            have f0 : wA.frozen? ⟨ga, 0, none⟩ = false := frozen_of hA 0
            have f1 : wA.frozen? ⟨ga, 1, none⟩ = false := frozen_of hA 1
            have f2 : wA.frozen? ⟨ga, 2, none⟩ = false := frozen_of hA 2
            have f3 : wA.frozen? ⟨ga, 3, none⟩ = false := frozen_of hA 3
            have HK : Hid (Kp [] w3 wA ∧ wA.heap[ga]? = some (.cells #[.string ⟨#[97]⟩, .string ⟨#[49]⟩, .string ⟨#[98]⟩, .string ⟨#[50]⟩] 31 (0, 0)) ∧ w3.heap.size ≤ ga) := ⟨kA, hA, hgn⟩
            clear kA hA hgn ST hjk
            rcases (show (j = 0 ∨ j = 2 ∨ j = 4 ∨ j = 6) ∨ (j = 1 ∨ j = 5) ∨ j = 3 from by omega) with hv | hv | hv
            · have HP2 := HP.out wA 2 [aA, aB] HK.out.1 (rp_block wA ga _ HK.out.2.1 [aA, aB] 2 2 rfl (Nat.le_refl _) (fun j hj => by
                rcases (show j = 0 ∨ j = 1 ∨ j = 2 ∨ j = 3 from by omega) with rfl | rfl | rfl | rfl <;> rfl)) (Nat.le_refl _)
              unfold askv at HP2
              simp only at HP2
              clear HP HK c0 c1 c2 c3 f0 f1 f2 f3
              rcases hv with rfl | rfl | rfl | rfl
              all_goals
                go_wp2_with fail
                refine HP2.mono ?_
                rintro e w5 ⟨b5, n5, d5, rfl, H5⟩
                clear HP2
                go_wp2
                obtain ⟨zs2, B2, rl2, g1, g2, g3, g4, g5⟩ := H5.out
                go_roundw
                case rel => exact ⟨_, zs2, B2, rl2, b5, n5, d5, by omega, g1, by go_num, by go_num, by go_num, g2, g3, g4, g5⟩
                case measure => simp [intOf]; try omega
            · rcases hv with rfl | rfl
              all_goals
                go_upto_region 16 with fail
                go_region
                all_goals
                  obtain ⟨W, hW⟩ : ∃ W, W = ((((wA.setCell ⟨ga, 0, none⟩ (.string ⟨#[98]⟩)).setCell ⟨ga, 1, none⟩ (.string ⟨#[50]⟩)).setCell ⟨ga, 2, none⟩ (.string ⟨#[97]⟩)).setCell ⟨ga, 3, none⟩ (.string ⟨#[49]⟩)).drew := ⟨_, rfl⟩
                  rw [← hW]
                  obtain ⟨kW, hWb⟩ := swap_put w3 wA ga HK.out.1 HK.out.2.1 HK.out.2.2 W hW
                  clear hW c0 c1 c2 c3 f0 f1 f2 f3 HK
                  have HP2 := HP.out W 2 [aB, aA] kW (rp_block W ga _ hWb [aB, aA] 2 2 rfl (by omega) (fun j hj => by
                    rcases (show j = 0 ∨ j = 1 ∨ j = 2 ∨ j = 3 from by omega) with rfl | rfl | rfl | rfl <;> rfl)) (by omega)
                  unfold askv at HP2
                  simp only at HP2
                  clear HP kW hWb
                  go_wp2_with fail
                  refine HP2.mono ?_
                  rintro e w5 ⟨b5, n5, d5, rfl, H5⟩
                  clear HP2
                  go_wp2
                  obtain ⟨zs2, B2, rl2, g1, g2, g3, g4, g5⟩ := H5.out
                  go_roundw
                  case rel => exact ⟨_, zs2, B2, rl2, b5, n5, d5, by omega, g1, by go_num, by go_num, by go_num, g2, g3, g4, g5⟩
                  case measure => simp [intOf]; try omega
            · subst hv
              go_upto_region 16 with fail
              go_region
              all_goals
                obtain ⟨W, hW⟩ : ∃ W, W = ((((wA.setCell ⟨ga, 0, none⟩ (.string ⟨#[98]⟩)).setCell ⟨ga, 1, none⟩ (.string ⟨#[50]⟩)).setCell ⟨ga, 2, none⟩ (.string ⟨#[97]⟩)).setCell ⟨ga, 3, none⟩ (.string ⟨#[49]⟩)).drew := ⟨_, rfl⟩
                rw [← hW]
                obtain ⟨kW, hWb⟩ := swap_put w3 wA ga HK.out.1 HK.out.2.1 HK.out.2.2 W hW
                clear hW c0 c1 c2 c3 f0 f1 f2 f3 HK
                have HP2 := HP.out W 1 [aB] kW (rp_block W ga _ hWb [aB] 1 2 rfl (by omega) (fun j hj => by
                  rcases (show j = 0 ∨ j = 1 from by omega) with rfl | rfl <;> rfl)) (by omega)
                unfold askv at HP2
                simp only at HP2
                clear HP kW hWb
                go_wp2_with fail
                refine HP2.mono ?_
                rintro e w5 ⟨b5, n5, d5, rfl, H5⟩
                clear HP2
                go_wp2
                obtain ⟨zs2, B2, rl2, g1, g2, g3, g4, g5⟩ := H5.out
                go_roundw
                case rel => exact ⟨_, zs2, B2, rl2, b5, n5, d5, by omega, g1, by go_num, by go_num, by go_num, g2, g3, g4, g5⟩
                case measure => simp [intOf]; try omega
        · have hj7 : j = 7 := by omega
          subst hj7
          rw [show ((7 : Nat) : Int) = 7 from rfl]
          have ST : Hid (∃ (zs2 : List Ent) (B2 : List Nat) (rl2 : List Raw), (zs2.length : Int) ≤ 14 + 3 * (3 - 3) ∧ Li w wr q B2 zs2 ∧ Kp [] w wr ∧ Ls wr bo n d rl2 zs2 ∧ Off B2 bo) := ⟨zs, B, rl, by omega, hr, kr, hm, ho⟩
          clear hr kr hm ho hz hj hjl
          obtain ⟨wb, hwb⟩ : ∃ x, x = wr := ⟨_, rfl⟩
          subst hwb
          go_wp2
          go_loopw [3, 4, 7] (fun m ok kd wr => ∃ (kv : Int) (bo : Option Addr) (n d : Nat), 3 ≤ kv ∧ kv ≤ 9 ∧ m = .slice bo n d ∧ ok = .bool true ∧ kd = .int .i64 kv ∧ Hid (∃ (zs2 : List Ent) (B2 : List Nat) (rl2 : List Raw), (zs2.length : Int) ≤ 14 + 3 * (kv - 3) ∧ Li w wr q B2 zs2 ∧ Kp [] w wr ∧ Ls wr bo n d rl2 zs2 ∧ Off B2 bo)) (fun _ _ kd _ => 9 - (intOf kd).toNat)
          case atStart => exact ⟨3, bo, n, d, by omega, by omega, rfl, rfl, rfl, ST⟩
          case round =>
            obtain ⟨kv, bc, nc, dc, hc3, hc9, rfl, rfl, rfl, HS⟩ := hrel
            by_cases hcl : kv ≤ 8
            · obtain ⟨wc, hwc⟩ : ∃ x, x = wr := ⟨_, rfl⟩
              subst hwc
              clear ST
              go_wp2
              go_loopw [3, 4, 8] (fun m ok i wr => ∃ (iv : Int) (t : Nat) (bo : Option Addr) (n d : Nat), (t = 0 ∧ iv = -1 ∨ t = 1 ∧ iv = 2 ∨ t = 2 ∧ iv = 5 ∨ t = 3 ∧ iv = 8) ∧ m = .slice bo n d ∧ ok = .bool true ∧ i = .int .i64 iv ∧ Hid (∃ (zs2 : List Ent) (B2 : List Nat) (rl2 : List Raw), (zs2.length : Int) ≤ 14 + 3 * (kv - 3) + (t : Int) ∧ Li w wr q B2 zs2 ∧ Kp [] w wr ∧ Ls wr bo n d rl2 zs2 ∧ Off B2 bo)) (fun _ _ i _ => 9 - (intOf i + 1).toNat)
              case atStart =>
                obtain ⟨zs2, B2, rl2, g1, g2, g3, g4, g5⟩ := HS.out
                exact ⟨-1, 0, bc, nc, dc, Or.inl ⟨rfl, rfl⟩, rfl, rfl, rfl, zs2, B2, rl2, by omega, g2, g3, g4, g5⟩
              case round =>
                clear HS
                obtain ⟨iv, t, be, ne, de, ht, rfl, rfl, rfl, HT⟩ := hrel
                have HQ : Hid (∀ iv : Int, Calls Try.prog 8 #[.pointer (some ⟨q, 0, none⟩), .slice be ne de, askv (kv, iv, 1, iv, (none, 0, 0), [])] wr fun e w' => ∃ b5 n5 d5, e = .returned (.tuple #[.slice b5 n5 d5, .bool true]) ∧ Hid (∃ (zs2 : List Ent) (B2 : List Nat) (rl2 : List Raw), (zs2.length : Int) ≤ 14 + 3 * (kv - 3) + ((t : Int) + 1) ∧ Li w w' q B2 zs2 ∧ Kp [] w w' ∧ Ls w' b5 n5 d5 rl2 zs2 ∧ Off B2 b5)) := fun iv => by
                  obtain ⟨zs2, B2, rl2, g1, g2, g3, g4, g5⟩ := HT.out
                  refine (do_any w wr q B2 rl2 zs2 be ne de (kv, iv, 1, iv, (none, 0, 0), []) g2 g4 g5 g3 ⟨⟨rfl, Nat.le_refl _, fun j hj => by simp at hj⟩, by simp⟩ (by omega)).mono ?_
                  rintro e w' ⟨b5, n5, d5, rl5, zs5, B5, rfl, l5, z5, o5, k5, h5⟩
                  exact ⟨b5, n5, d5, rfl, zs5, B5, rl5, by omega, l5, k5, z5, o5⟩
                rcases ht with ⟨rfl, rfl⟩ | ⟨rfl, rfl⟩ | ⟨rfl, rfl⟩ | ⟨rfl, rfl⟩
                · have HQ2 := HQ.out (-1)
                  unfold askv at HQ2
                  simp only at HQ2
                  clear HQ HT
                  go_wp2_with fail
                  refine HQ2.mono ?_
                  rintro e w5 ⟨b5, n5, d5, rfl, H5⟩
                  clear HQ2
                  go_wp2
                  go_roundw
                  case rel => exact ⟨2, 1, b5, n5, d5, by simp, by go_num, by go_num, by go_num, H5⟩
                  case measure => simp [intOf]; try omega
                · have HQ2 := HQ.out (2)
                  unfold askv at HQ2
                  simp only at HQ2
                  clear HQ HT
                  go_wp2_with fail
                  refine HQ2.mono ?_
                  rintro e w5 ⟨b5, n5, d5, rfl, H5⟩
                  clear HQ2
                  go_wp2
                  go_roundw
                  case rel => exact ⟨5, 2, b5, n5, d5, by simp, by go_num, by go_num, by go_num, H5⟩
                  case measure => simp [intOf]; try omega
                · have HQ2 := HQ.out (5)
                  unfold askv at HQ2
                  simp only at HQ2
                  clear HQ HT
                  go_wp2_with fail
                  refine HQ2.mono ?_
                  rintro e w5 ⟨b5, n5, d5, rfl, H5⟩
                  clear HQ2
                  go_wp2
                  go_roundw
                  case rel => exact ⟨8, 3, b5, n5, d5, by simp, by go_num, by go_num, by go_num, H5⟩
                  case measure => simp [intOf]; try omega
                · clear HQ
                  go_wp2
                  obtain ⟨zs2, B2, rl2, g1, g2, g3, g4, g5⟩ := HT.out
                  go_roundw
                  case rel => exact ⟨kv + 1, be, ne, de, by omega, by omega, rfl, rfl, by go_num, zs2, B2, rl2, by omega, g2, g3, g4, g5⟩
                  case measure => simp [intOf]; try omega
            · have hk9 : kv = 9 := by omega
              subst hk9
              clear ST
              go_wp2
              obtain ⟨zs2, B2, rl2, g1, g2, g3, g4, g5⟩ := HS.out
              go_roundw
              case rel => exact ⟨k + 1, by omega, by go_num, g3⟩
              case measure => simp [intOf]; try omega
    · have HX : Hid (Kp [] w wr) := ka
      have HKn := known_any wr
      clear ka
      go_wp2_with fail
      refine HKn.mono ?_
      rintro e w2 ⟨rfl, k2⟩
      have HX2 : Hid (Kp [] w w2) := kt HX.out k2
      clear k2 HX HKn
      go_wp2
      go_ret
      exact ⟨rfl, HX2.out⟩

end Go.Proofs.Ytadcpkdnpfmphaa.Ints
