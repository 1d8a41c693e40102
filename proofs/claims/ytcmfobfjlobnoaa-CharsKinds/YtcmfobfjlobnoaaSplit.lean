/-
  The program's Split, of any text.
-/
import Derived.Test.YtcmfobfjlobnoaaIter
import Derived.Test.YtcmfobfjlobnoaaRuns
import Derived.Test.YtcmfobfjlobnoaaClone
namespace Go.Proofs.Ytcmfobfjlobnoaa
open Go.RowKit Utf

theorem tx_snoc (L : List ByteArray) (p : ByteArray) : tx L ++ [.string p] = tx (L ++ [p]) := by simp [tx]

set_option maxHeartbeats 1000000 in
set_option maxRecDepth 100000 in
theorem split_any (w : World) (s : ByteArray) (hl : s.size ≤ 100000) : Calls Try.prog 13 #[.string s] w fun e w' => ∃ ao n c, e = .returned (.slice ao n c) ∧ Made w w' 9 ao n c (tx (split s)) := by
  go_enter Try.func13, Try.ntmps13
  go_wp2
  go_loopw [3, 4, 5] (fun v f b wr => ∃ (pos F : Nat) (B : Bool) (L : List ByteArray) (ao : Option Addr) (n c : Nat), v = .slice ao n c ∧ f = .int .i64 F ∧ b = .bool B ∧ Hid (Run s pos F B L) ∧ Made (w.iter s pos) wr 9 ao n c (tx L)) (fun _ _ _ wr => s.size - wr.iterPos w.heap.size)
  case atStart => exact ⟨0, 0, false, [], none, 0, 0, rfl, rfl, rfl, Run.start s, Made.nil _ _⟩
  case round =>
    obtain ⟨pos, F, B, L, ao, n, c, rfl, rfl, rfl, hr, hm⟩ := hrel
    have hps := hr.out.1
    obtain ⟨hL, hF⟩ := hr.out.len
    have hip := iter_pos hm.2.1
    by_cases hp : pos < s.size
    · have hnx := next_at hm.2.1 hp
      obtain ⟨d1, d2, d3⟩ := decode_kind s pos hp
      have D3 : Hid (∀ j, pos ≤ j → j < pos + (Utf8.decode s pos).2 → kind s j = isSp ((Utf8.decode s pos).1 : Int)) := d3
      obtain ⟨x, hx⟩ : ∃ x : Int, x = ((Utf8.decode s pos).1 : Int) := ⟨_, rfl⟩
      rw [← hx] at hnx D3
      generalize (Utf8.decode s pos).2 = sz at hnx d1 d2 D3
      clear hx d3
      have hm1 := hm.tick (pos + sz)
      generalize tick wr w.heap.size s (pos + sz) = w1 at hnx hm1
      have HS := space_any w1 x
      generalize isSp x = y at HS D3
      by_cases hp0 : pos = 0
      · have hr2 : Hid (Run s (pos + sz) F y L) := hr.out.on d1 d2 D3.out (Or.inl hp0)
        have hF0 : F = 0 := by omega
        subst hp0
        subst hF0
        clear hr D3
        go_wp2_with fail
        refine HS.mono ?_
        rintro e w2 ⟨rfl, rfl⟩
        clear HS hnx hm
        go_wp2
        go_roundw
        case rel => exact ⟨_, _, _, _, _, _, _, rfl, rfl, rfl, hr2, hm1⟩
        case measure =>
          rw [hip, iter_pos hm1.2.1]
          omega
      · have hFp : F < pos := by
          rcases hr.out with ⟨_, ⟨h1, _⟩ | ⟨_, h2, _⟩⟩
          · exact absurd h1 hp0
          · exact h2
        by_cases hyB : y = B
        · have hr2 : Hid (Run s (pos + sz) F y L) := hr.out.on d1 d2 D3.out (Or.inr hyB)
          subst hyB
          clear hr D3
          cases y
          all_goals
            go_wp2_with fail
            refine HS.mono ?_
            rintro e w2 ⟨rfl, rfl⟩
            clear HS hnx hm
            go_wp2
            go_roundw
            case rel => exact ⟨_, _, _, _, _, _, _, rfl, rfl, rfl, hr2, hm1⟩
            case measure =>
              rw [hip, iter_pos hm1.2.1]
              omega
        · have hr2 : Hid (Run s (pos + sz) pos y (L ++ [s.extract F pos])) := hr.out.cut d1 d2 D3.out (by omega) hyB
          obtain rfl : B = !y := by cases y <;> cases B <;> simp_all
          clear hr D3 hyB
          cases y
          all_goals
            simp only [Bool.not_true, Bool.not_false] at *
            go_wp2_with fail
            refine HS.mono ?_
            rintro e w2 ⟨rfl, rfl⟩
            clear HS hnx hm
            have HP := piece_any w2 s F pos (by omega) (by omega) (by omega)
            go_wp2_with fail
            refine HP.mono ?_
            rintro e w3 ⟨rfl, k3⟩
            have hm3 := hm1.kept k3
            clear HP hm1 k3
            obtain ⟨ao', n', c', w4, hrun, hm4⟩ := hm3.one Try.underlying29 info9 rfl (by decide) (.string (s.extract F pos)) rfl (by rw [tx_len]; omega)
            rw [tx_snoc] at hm4
            clear hm3
            go_wp2_with (at_builtin; refine Lib.wpList_append_run _ rfl _ _ _ _ rfl _ _ rfl rfl _ _ (hrun _) ?_)
            go_roundw
            case rel => exact ⟨_, _, _, _, _, _, _, rfl, rfl, rfl, hr2, hm4⟩
            case measure =>
              rw [hip, iter_pos hm4.2.1]
              omega
    · obtain rfl : pos = s.size := by omega
      have hnx := next_end hm.2.1 hp
      have hk0 : Kp [] w (w.iter s s.size) := (Kp.refl _ _).alloc _
      have hm1 : Made w wr 9 ao n c (tx L) := ⟨hm.1, iter_kp hm.2.1, fun k hk => Nat.le_trans hk0.size (hm.2.2 k hk)⟩
      rcases hr.out.done with ⟨h1, h2, h3⟩ | ⟨h1, h2⟩
      · have h3 : Hid (split s = L) := h3
        subst h2
        clear hr hm
        go_wp2
        go_ret
        exact ⟨_, _, _, rfl, by rw [h3.out]; exact hm1⟩
      · have h2 : Hid (split s = L ++ [s.extract F s.size]) := h2
        clear hr hm
        have HP := piece_any wr s F s.size (by omega) (by omega) (by omega)
        go_wp2_with fail
        refine HP.mono ?_
        rintro e w3 ⟨rfl, k3⟩
        have hm3 := hm1.kept k3
        clear HP hm1 k3 hnx
        obtain ⟨ao', n', c', w4, hrun, hm4⟩ := hm3.one Try.underlying29 info9 rfl (by decide) (.string (s.extract F s.size)) rfl (by rw [tx_len]; omega)
        rw [tx_snoc] at hm4
        clear hm3
        go_wp2_with (at_builtin; refine Lib.wpList_append_run _ rfl _ _ _ _ rfl _ _ rfl rfl _ _ (hrun _) ?_)
        go_ret
        exact ⟨_, _, _, rfl, by rw [h2.out]; exact hm4⟩

end Go.Proofs.Ytcmfobfjlobnoaa
