/-
  The walk of StackNumbers: it answers true, and leaves what was there as it was.
-/
import Derived.Test.YtfnacibhmanblaaIntsG
import Derived.Test.YtfnacibhmanblaaKnown
namespace Go.Proofs.Ytfnacibhmanblaa
open Go.RowKit Ints

set_option maxHeartbeats 2000000 in
set_option maxRecDepth 100000 in
theorem numbers_any (w : World) : Calls Try.prog 3 #[] w fun e w' => e = .returned (.bool true) ∧ Kp [] w w' := by
  go_enter Try.func3, Try.ntmps3
  go_wp2_with fail
  refine (new_any _).mono ?_
  rintro e w1 ⟨rfl, rfl⟩
  have g1 := G.new w
  generalize w.alloc (.cells #[.slice none 0 0] 49) = w1 at g1 ⊢
  generalize w.heap.size = p at g1 ⊢
  go_wp2_with fail
  go_loopw [2, 4] (fun l r wr => ∃ n : Nat, n ≤ 3 ∧ r = .int .i64 (n : Nat) ∧ G w wr p l (30 * n)) (fun _ r _ => 3 - (intOf r).toNat)
  case atStart => exact ⟨0, by omega, rfl, g1⟩
  case round =>
    obtain ⟨n, hn, rfl, gn⟩ := hrel
    clear g1
    by_cases h3 : n < 3
    · obtain ⟨wo, rfl⟩ : ∃ wo : World, wo = wr := ⟨_, rfl⟩
      have hd3 : decide ((n : Int) < 3) = true := decide_eq_true (by omega)
      go_wp2_with fail
      go_loopw [2, 5] (fun l k wr => ∃ m : Nat, 1 ≤ m ∧ m ≤ 7 ∧ k = .int .i64 (m : Nat) ∧ G w wr p l (30 * n + 5 * (m - 1))) (fun _ k _ => 7 - (intOf k).toNat)
      case atStart => exact ⟨1, by omega, by omega, rfl, gn⟩
      case round =>
        clear gn
        obtain ⟨m, hm1, hm7, rfl, gm⟩ := hrel
        by_cases h6 : m ≤ 6
        · obtain ⟨wo2, rfl⟩ : ∃ wo2 : World, wo2 = wr := ⟨_, rfl⟩
          have hd6 : decide ((m : Int) ≤ 6) = true := decide_eq_true (by omega)
          go_wp2_with fail
          go_loopw [2, 6] (fun l i wr => ∃ q : Nat, q ≤ 5 ∧ i = .int .i64 ((q : Int) - 1) ∧ G w wr p l (30 * n + 5 * (m - 1) + q)) (fun _ i _ => (4 - intOf i).toNat)
          case atStart => exact ⟨0, by omega, rfl, gm⟩
          case round =>
            clear gm
            obtain ⟨q, hq, rfl, gq⟩ := hrel
            by_cases h4 : q < 5
            · obtain ⟨pv, zs, two, kp, hf, hb⟩ := gq
              have HP := fun (kind i n : Int) (s : ByteArray) (x : Int) => play_any _ _ _ _ _ kind i n s x two (by omega)
              have HX := HP
              clear HP
              have HQ : Hid (∀ w' lv' zs', TwoT wr w' p pv u2 lv' zs' → zs'.length ≤ zs.length + 1 → G w w' p lv' (30 * n + 5 * (m - 1) + (q + 1))) := fun w' lv' zs' t h => G.step kp hf t (by omega)
              clear kp hf hb
              go_wp2_with fail
              refine (HX _ _ _ _ _).mono ?_
              rintro e w2 ⟨lv', zs', rfl, t2, hl2⟩
              have g2 := HQ.out w2 lv' zs' t2 hl2
              have HG : Hid (G w w2 p lv' (30 * n + 5 * (m - 1) + (q + 1))) := g2
              clear HX HQ t2 hl2 g2 two
              go_wp2
              go_roundw
              case rel => exact ⟨q + 1, by omega, by go_num, HG.out⟩
              case measure => simp [intOf]; omega
            · have HG : Hid (G w wr p u2 (30 * n + 5 * (m + 1 - 1))) := by
                obtain ⟨pv, zs, two, kp, hf, hb⟩ := gq
                exact ⟨pv, zs, two, kp, hf, by omega⟩
              clear gq
              go_wp2
              go_roundw
              case rel => exact ⟨m + 1, by omega, by omega, by go_num, HG.out⟩
              case measure => simp [intOf]; omega
        · have HG : Hid (G w wr p u2 (30 * (n + 1))) := by
            obtain ⟨pv, zs, two, kp, hf, hb⟩ := gm
            exact ⟨pv, zs, two, kp, hf, by omega⟩
          clear gm
          go_wp2
          go_roundw
          case rel => exact ⟨n + 1, by omega, by go_num, HG.out⟩
          case measure => simp [intOf]; omega
    · obtain ⟨pv, zs, two, kp, hf, hb⟩ := gn
      clear two hf hb
      go_wp2_with fail
      refine (known_any _).mono ?_
      rintro e w6 ⟨rfl, k6⟩
      have hk := kp.trans k6 (fun x hx => by simp at hx)
      clear kp k6
      go_wp2
      go_ret
      exact ⟨rfl, hk⟩

end Go.Proofs.Ytfnacibhmanblaa
