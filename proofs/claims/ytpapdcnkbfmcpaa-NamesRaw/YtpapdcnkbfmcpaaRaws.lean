/-
  The walk of NamesRaw: whatever it is given, it answers true, and leaves what was there as it was.
-/
import Derived.Test.YtpapdcnkbfmcpaaAgree
namespace Go.Proofs.Ytpapdcnkbfmcpaa
open Go.RowKit

set_option maxHeartbeats 2000000 in
theorem raws_any (w : World) (s0 : ByteArray) (i : Int) : Calls Try.prog 6 #[.string s0, .int .i64 i] w fun e w' => e = .returned (.bool true) ∧ Kp [] w w' := by
  go_enter Try.func6, Try.ntmps6
  go_wp2_with fail
  refine (names_any _ i).mono ?_
  rintro e w1 ⟨x, rfl, hx, k1⟩
  go_wp2_with fail
  refine (cut_any _ s0 20 (by omega)).mono ?_
  rintro e w1 ⟨rfl, rfl⟩
  generalize (if 20 < s0.size then s0.extract 0 20 else s0) = s
  have HR := rb_lit w1 9 #[.string x, .string (x ++ ⟨#[120]⟩), .string s, .string ⟨#[]⟩] (tx [x, x ++ ⟨#[120]⟩, s, ⟨#[]⟩]) 4 rfl rfl (by omega)
  have kw : Kp [] w (w1.alloc (.cells #[.string x, .string (x ++ ⟨#[120]⟩), .string s, .string ⟨#[]⟩] 9)) := k1.alloc _
  go_wp2
  generalize w1.alloc (.cells #[.string x, .string (x ++ ⟨#[120]⟩), .string s, .string ⟨#[]⟩] 9) = w2 at HR kw ⊢
  generalize some (⟨w1.heap.size, 0, none⟩ : Addr) = a1 at HR ⊢
  obtain ⟨zs, hz, hl⟩ : ∃ zs, [x, x ++ ⟨#[120]⟩, s, ⟨#[]⟩] = zs ∧ zs.length = 4 := ⟨_, rfl, rfl⟩
  rw [hz] at HR
  clear hz k1
  go_loopw [19] (fun i wr => ∃ p : Nat, i = .int .i64 (p : Int) ∧ p ≤ 4 ∧ Kp [] w wr ∧ Rb wr a1 4 4 (tx zs)) (fun i _ => 4 - (intOf i).toNat)
  case atStart => exact ⟨0, rfl, by omega, kw, HR⟩
  case round =>
    obtain ⟨p, rfl, hp, kp, rp⟩ := hrel
    clear kw HR
    by_cases hlt : p < 4
    · obtain ⟨b, o, rfl, hc⟩ := rp.tx_at p (by rw [hl]; exact hlt)
      generalize zs[p]'(by rw [hl]; exact hlt) = y at hc
      obtain ⟨t1, t2, t3, t4, t5, t6⟩ := raw_told y
      have A := fun w => raw_any w y true
      have B := fun w => raw_any w y false
      generalize raw y true = a at *
      generalize raw y false = b at *
      unfold NOS at t1
      unfold PLN at t6
      clear hl
      cases hN : (y.toList == [110, 111, 115, 99, 114, 105, 112, 116]) <;> cases hP : (y.toList == [112, 108, 97, 105, 110, 116, 101, 120, 116])
      all_goals
        rw [hN] at t1
        rw [hP] at t6
        go_wp2_with fail
        refine (A _).mono ?_
        rintro e w3 ⟨rfl, rfl⟩
        go_wp2_with fail
        refine (B _).mono ?_
        rintro e w3 ⟨rfl, rfl⟩
        go_wp2
        all_goals
          go_roundw
          case rel => exact ⟨p + 1, by go_num, by omega, kp, rp⟩
          case measure => simp [intOf]; omega
    · go_wp2_with fail
      refine (known_any _).mono ?_
      rintro e w' ⟨rfl, rfl⟩
      go_wp2
      go_ret
      exact ⟨rfl, kp⟩

end Go.Proofs.Ytpapdcnkbfmcpaa
