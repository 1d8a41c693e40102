/-
  The walk of StackPlays: whatever calls it is given, it answers true, and leaves what was there as it was.
-/
import Derived.Test.YtfnacibhmanblaaBoth
import Derived.Deep.RegionHeld3
namespace Go.Proofs.Ytfnacibhmanblaa
open Go.RowKit

set_option maxHeartbeats 4000000 in
set_option maxRecDepth 100000 in
theorem plays_any (w : World) (ao : Option Addr) (n c : Nat) (hA : Asks w ao n) :
    Calls Try.prog 4 #[.slice ao n c] w fun e w' => e = .returned (.bool true) ∧ Kp [] w w' := by
  have HA : Hid (Asks w ao n) := hA
  clear hA
  go_enter Try.func4, Try.ntmps4
  go_wp2_with fail
  refine (Ints.new_any _).mono ?_
  rintro e w1 ⟨rfl, rfl⟩
  go_wp2_with fail
  refine (Strs.new_any _).mono ?_
  rintro e w1 ⟨rfl, rfl⟩
  have g1 := GG.new w
  have hsz : (w.alloc (.cells #[.slice none 0 0] 49)).heap.size = w.heap.size + 1 := by simp
  rw [hsz]
  generalize (w.alloc (.cells #[.slice none 0 0] 49)).alloc (.cells #[.slice none 0 0] 55) = w1 at g1 ⊢
  clear hsz
  generalize w.heap.size + 1 = q at g1 ⊢
  generalize w.heap.size = p at g1 ⊢
  go_wp2_with fail
  go_loopw [5, 6, 7, 8, 9] (fun a b _ _ i wr => ∃ (k : Nat) (pv qv : Value) (zs : List Int) (ys : List ByteArray), k ≤ n ∧ k ≤ 80 ∧ i = .int .i64 (k : Nat) ∧ GG w wr p q pv a qv b zs ys ∧ zs.length ≤ k ∧ ys.length ≤ k) (fun _ _ _ _ i _ => 80 - (intOf i).toNat)
  case atStart => exact ⟨0, _, _, [], [], Nat.zero_le _, Nat.zero_le _, rfl, g1, Nat.le_refl _, Nat.le_refl _⟩
  case round =>
    clear g1
    obtain ⟨k, pv, qv, zs, ys, hk, hk80, rfl, gg, hz, hy⟩ := hrel
    by_cases h1 : k < n ∧ k < 80
    · obtain ⟨h1, h2⟩ := h1
      obtain ⟨b, off, kd, i, m, s, rfl, hb, c0, c1, c2, c3⟩ := HA.out k h1
      have HC : Hid (∀ w', Kp [] w w' → w'.cell? ⟨b, off + k * 4, none⟩ = some (.int .i64 kd) ∧ w'.cell? ⟨b, off + k * 4 + 1, none⟩ = some (.int .i64 i) ∧ w'.cell? ⟨b, off + k * 4 + 2, none⟩ = some (.int .i64 m) ∧ w'.cell? ⟨b, off + k * 4 + 3, none⟩ = some (.string s)) := fun w' kk =>
        ⟨(kk.cell (a := ⟨b, off + k * 4, none⟩) hb (by simp)).trans c0, (kk.cell (a := ⟨b, off + k * 4 + 1, none⟩) hb (by simp)).trans c1, (kk.cell (a := ⟨b, off + k * 4 + 2, none⟩) hb (by simp)).trans c2, (kk.cell (a := ⟨b, off + k * 4 + 3, none⟩) hb (by simp)).trans c3⟩
      have hkI : (0 : Int) ≤ (k : Int) := by omega
      have hkn : (k : Int) < (n : Int) := by omega
      clear c0 c1 c2 c3 hb
      have hd80 : decide ((k : Int) < 80) = true := decide_eq_true (by omega)
      have hkp := gg.2.2.1
      have HP1 : Hid (∀ W, Kp [] wr W → Calls Try.prog 8 #[.pointer (some ⟨p, 0, none⟩), u5, .agg #[.int .i64 kd, .int .i64 i, .int .i64 m, .string s], .int .i64 m] W fun e w' => ∃ lv' zs', e = .returned (.tuple #[lv', .bool true]) ∧ Ints.TwoT W w' p pv u5 lv' zs' ∧ zs'.length ≤ zs.length + 1) :=
        fun W kk => Ints.play_any _ _ _ _ _ kd i m s m (gg.1.kept kk (fun _ _ => by simp)) (by omega)
      have HQ1 : Hid (∀ W w' lv' zs', Kp [] wr W → Ints.TwoT W w' p pv u5 lv' zs' → ∃ pv', GG w w' p q pv' lv' qv u6 zs' ys) := fun W w' lv' zs' kk t => gg.ints kk t
      have HG : Hid (GG w wr p q pv u5 qv u6 zs ys) := gg
      have HK : Hid (Kp [] w wr) := hkp
      clear gg hkp
      go_wp2_with fail
      go_region_held3 (fun w' => (w'.cell? ⟨b, off + k * 4, none⟩ = some (.int .i64 kd) ∧ w'.cell? ⟨b, off + k * 4 + 1, none⟩ = some (.int .i64 i) ∧ w'.cell? ⟨b, off + k * 4 + 2, none⟩ = some (.int .i64 m) ∧ w'.cell? ⟨b, off + k * 4 + 3, none⟩ = some (.string s)) ∧ Kp [] w w')
        (first
          | exact ⟨HC.out _ HK.out.drew, HK.out.drew⟩
          | exact ⟨HC.out _ S2.out, S2.out⟩)
        ((go_at_call 8; refine (HP1.out _ (Kp.refl [] wr).drew).mono ?_; rintro e w2 ⟨lv2, zs2, rfl, t2, hl2⟩; obtain ⟨pv2, gg2⟩ := HQ1.out _ _ _ _ (Kp.refl [] wr).drew t2; have S2 : Hid (Kp [] w w2) := gg2.2.2.1; have HG2 : Hid (GG w w2 p q pv2 lv2 qv u6 zs2 ys) := gg2; clear t2 gg2))
      have HP2 : Hid (∀ W, Kp [] w2 W → Calls Try.prog 11 #[.pointer (some ⟨q, 0, none⟩), u6, .agg #[.int .i64 kd, .int .i64 i, .int .i64 m, .string s], .string s] W fun e w' => ∃ lv' zs', e = .returned (.tuple #[lv', .bool true]) ∧ Strs.TwoT W w' q qv u6 lv' zs' ∧ zs'.length ≤ ys.length + 1) :=
        fun W kk => Strs.play_any _ _ _ _ _ kd i m s s (HG2.out.2.1.kept kk (fun _ _ => by simp)) (by omega)
      have HQ2 : Hid (∀ W w' lv' zs', Kp [] w2 W → Strs.TwoT W w' q qv u6 lv' zs' → ∃ qv', GG w w' p q pv2 lv2 qv' lv' zs2 zs') := fun W w' lv' zs' kk t => HG2.out.strs kk t
      clear HP1 HQ1 HG HG2 HK
      go_wp2_with fail
      go_region_held3 (fun w' => (w'.cell? ⟨b, off + k * 4, none⟩ = some (.int .i64 kd) ∧ w'.cell? ⟨b, off + k * 4 + 1, none⟩ = some (.int .i64 i) ∧ w'.cell? ⟨b, off + k * 4 + 2, none⟩ = some (.int .i64 m) ∧ w'.cell? ⟨b, off + k * 4 + 3, none⟩ = some (.string s)) ∧ Kp [] w w')
        (first
          | exact ⟨HC.out _ S3.out, S3.out⟩
          | exact ⟨HC.out _ S2.out.drew, S2.out.drew⟩)
        ((go_at_call 11; refine (HP2.out _ (Kp.refl [] w2).drew).mono ?_; rintro e w3 ⟨lv3, ys3, rfl, t3, hl3⟩; obtain ⟨qv3, gg3⟩ := HQ2.out _ _ _ _ (Kp.refl [] w2).drew t3; have S3 : Hid (Kp [] w w3) := gg3.2.2.1; have HG3 : Hid (GG w w3 p q pv2 lv2 qv3 lv3 zs2 ys3) := gg3; clear t3 gg3))
      clear HP2 HQ2 HC
      go_wp2
      go_roundw
      case rel => exact ⟨k + 1, pv2, qv3, zs2, ys3, by omega, by omega, by go_num, HG3.out, by omega, by omega⟩
      case measure => simp [intOf]; omega
    · have hkp := gg.2.2.1
      have HE : Hid (k = n ∨ k = 80) := by show _ ∨ _; omega
      clear gg h1
      by_cases h2 : k < n
      · have hd : decide ((k : Int) < 80) = false := decide_eq_false (by rcases HE.out with h5 | h5 <;> omega)
        go_wp2_with fail
        refine (known_any _).mono ?_
        rintro e w6 ⟨rfl, k6⟩
        have hkk := hkp.trans k6 (fun x hx => by simp at hx)
        clear hkp k6
        go_wp2
        go_ret
        exact ⟨rfl, hkk⟩
      · go_wp2_with fail
        refine (known_any _).mono ?_
        rintro e w6 ⟨rfl, k6⟩
        have hkk := hkp.trans k6 (fun x hx => by simp at hx)
        clear hkp k6
        go_wp2
        go_ret
        exact ⟨rfl, hkk⟩

end Go.Proofs.Ytfnacibhmanblaa
