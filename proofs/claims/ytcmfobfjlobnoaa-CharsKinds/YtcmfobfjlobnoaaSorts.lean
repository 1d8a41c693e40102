/-
  The walk of CharsKinds: whatever rune and text it is given, it answers true, and leaves what was there as it was.
-/
import Derived.Test.YtcmfobfjlobnoaaTells
import Derived.Test.YtcmfobfjlobnoaaLetters
namespace Go.Proofs.Ytcmfobfjlobnoaa
open Go.RowKit Utf

set_option maxHeartbeats 1000000 in
set_option maxRecDepth 100000 in
theorem kinds_any (w : World) (r : Int) (s0 : ByteArray) : Calls Try.prog 6 #[.int .i32 r, .string s0] w fun e w' => e = .returned (.bool true) ∧ Kp [] w w' := by
  have hez := encode_size r
  go_enter Try.func6, Try.ntmps6
  go_wp2_with fail
  refine (head_any _ s0 60 (by omega)).mono ?_
  rintro e w' ⟨⟨t, rfl, ht⟩, rfl⟩
  have hsz : (t ++ Utf8.encode r).size ≤ 64 := by
    rw [ByteArray.size_append]
    omega
  go_wp2
  generalize t ++ Utf8.encode r = s at hsz ⊢
  clear ht hez
  go_loopw [] (fun wq => ∃ pos : Nat, Kp [] (w'.iter s pos) wq ∧ pos ≤ s.size) (fun wq => s.size - wq.iterPos w'.heap.size)
  case atStart => exact ⟨0, Kp.refl _ _, Nat.zero_le _⟩
  case round =>
    obtain ⟨pos, kq, hps⟩ := hrel
    have hip := iter_pos kq
    by_cases hp : pos < s.size
    · have hnx := next_at kq hp
      obtain ⟨d1, d2, _⟩ := decode_kind s pos hp
      have hgd := range_good s pos
      obtain ⟨x, hx⟩ : ∃ x : Int, x = ((Utf8.decode s pos).1 : Int) := ⟨_, rfl⟩
      rw [← hx] at hnx hgd
      generalize (Utf8.decode s pos).2 = sz at hnx d1 d2
      clear hx
      have kt := tick_kp kq (pos + sz)
      generalize tick wr w'.heap.size s (pos + sz) = W1 at hnx kt
      have KT : Hid (Kp [] (w'.iter s (pos + sz)) W1) := kt
      have hex1 := encode_size x
      obtain ⟨n0, n1⟩ := hexv_range x
      have HW := ways hgd
      have HX := hex_any W1 x
      have HS := fun W => space_any W x
      have HL := fun W => letter_any W x
      have HD := fun W => digit_any W x
      have HO := fun W => lower_any W (Utf8.encode x) (by omega)
      generalize lower (Utf8.encode x) = E at HW HO
      generalize hexv x = n at HX n0 n1
      clear kt kq hgd hex1
      rcases HW with ⟨e1, e2, e3, e4, e5⟩ | ⟨e1, e2, e3, e4, e5⟩ | ⟨e1, e2, e3, e4, e5⟩ | ⟨e1, e2, e3, e4, e5, e6, e7⟩ | ⟨e1, e2, e3, e4, e5, e6, e7⟩ | ⟨e1, e2, e3, e4, e5, e6⟩
      all_goals
        simp only [e1] at HS
        simp only [e2] at HL
        simp only [e3] at HD
        simp only [e4] at HX
        clear e1 e2 e3 e4
      · as_aux_lemma =>
        go_wp2_with fail
        refine HX.mono ?_
        rintro e w2 ⟨rfl, rfl⟩
        clear HX hnx
        go_wp2_with (first | (go_at_call 15; refine (HS _).mono ?_; rintro e w2 ⟨rfl, rfl⟩) | (go_at_call 18; refine (HL _).mono ?_; rintro e w2 ⟨rfl, rfl⟩) | (go_at_call 19; refine (HD _).mono ?_; rintro e w2 ⟨rfl, rfl⟩))
        refine (HO _).mono ?_
        rintro e w3 ⟨rfl, kk⟩
        have K3 : Hid (Kp [] (w'.iter s (pos + sz)) w3) := KT.out.trans kk (fun x hx => by simp at hx)
        clear kk KT HS HL HD
        go_wp2
        go_roundw
        case rel => exact ⟨pos + sz, K3.out, d2⟩
        case measure =>
          rw [hip, iter_pos K3.out]
          omega
      · as_aux_lemma =>
        go_wp2_with fail
        refine HX.mono ?_
        rintro e w2 ⟨rfl, rfl⟩
        clear HX hnx
        go_wp2_with (first | (go_at_call 15; refine (HS _).mono ?_; rintro e w2 ⟨rfl, rfl⟩) | (go_at_call 18; refine (HL _).mono ?_; rintro e w2 ⟨rfl, rfl⟩) | (go_at_call 19; refine (HD _).mono ?_; rintro e w2 ⟨rfl, rfl⟩))
        refine (HO _).mono ?_
        rintro e w3 ⟨rfl, kk⟩
        have K3 : Hid (Kp [] (w'.iter s (pos + sz)) w3) := KT.out.trans kk (fun x hx => by simp at hx)
        clear kk KT HS HL HD
        go_wp2
        go_roundw
        case rel => exact ⟨pos + sz, K3.out, d2⟩
        case measure =>
          rw [hip, iter_pos K3.out]
          omega
      · as_aux_lemma =>
        go_wp2_with fail
        refine HX.mono ?_
        rintro e w2 ⟨rfl, rfl⟩
        clear HX hnx
        go_wp2_with (first | (go_at_call 15; refine (HS _).mono ?_; rintro e w2 ⟨rfl, rfl⟩) | (go_at_call 18; refine (HL _).mono ?_; rintro e w2 ⟨rfl, rfl⟩) | (go_at_call 19; refine (HD _).mono ?_; rintro e w2 ⟨rfl, rfl⟩))
        refine (HO _).mono ?_
        rintro e w3 ⟨rfl, kk⟩
        have K3 : Hid (Kp [] (w'.iter s (pos + sz)) w3) := KT.out.trans kk (fun x hx => by simp at hx)
        clear kk KT HS HL HD
        go_wp2
        go_roundw
        case rel => exact ⟨pos + sz, K3.out, d2⟩
        case measure =>
          rw [hip, iter_pos K3.out]
          omega
      · as_aux_lemma =>
        go_wp2_with fail
        refine HX.mono ?_
        rintro e w2 ⟨rfl, rfl⟩
        clear HX hnx
        go_wp2_with (first | (go_at_call 15; refine (HS _).mono ?_; rintro e w2 ⟨rfl, rfl⟩) | (go_at_call 18; refine (HL _).mono ?_; rintro e w2 ⟨rfl, rfl⟩) | (go_at_call 19; refine (HD _).mono ?_; rintro e w2 ⟨rfl, rfl⟩))
        refine (HO _).mono ?_
        rintro e w3 ⟨rfl, kk⟩
        have K3 : Hid (Kp [] (w'.iter s (pos + sz)) w3) := KT.out.trans kk (fun x hx => by simp at hx)
        clear kk KT HS HL HD
        go_wp2_with fail
        refine (HO _).mono ?_
        rintro e w4 ⟨rfl, kk⟩
        have K4 : Hid (Kp [] (w'.iter s (pos + sz)) w4) := K3.out.trans kk (fun x hx => by simp at hx)
        clear kk K3 HO
        go_wp2
        go_roundw
        case rel => exact ⟨pos + sz, K4.out, d2⟩
        case measure =>
          rw [hip, iter_pos K4.out]
          omega
      · as_aux_lemma =>
        go_wp2_with fail
        refine HX.mono ?_
        rintro e w2 ⟨rfl, rfl⟩
        clear HX hnx
        go_wp2_with (first | (go_at_call 15; refine (HS _).mono ?_; rintro e w2 ⟨rfl, rfl⟩) | (go_at_call 18; refine (HL _).mono ?_; rintro e w2 ⟨rfl, rfl⟩) | (go_at_call 19; refine (HD _).mono ?_; rintro e w2 ⟨rfl, rfl⟩))
        refine (HO _).mono ?_
        rintro e w3 ⟨rfl, kk⟩
        have K3 : Hid (Kp [] (w'.iter s (pos + sz)) w3) := KT.out.trans kk (fun x hx => by simp at hx)
        clear kk KT HS HL HD
        go_wp2_with fail
        refine (HO _).mono ?_
        rintro e w4 ⟨rfl, kk⟩
        have K4 : Hid (Kp [] (w'.iter s (pos + sz)) w4) := K3.out.trans kk (fun x hx => by simp at hx)
        clear kk K3 HO
        go_wp2
        go_roundw
        case rel => exact ⟨pos + sz, K4.out, d2⟩
        case measure =>
          rw [hip, iter_pos K4.out]
          omega
      · as_aux_lemma =>
        go_wp2_with fail
        refine HX.mono ?_
        rintro e w2 ⟨rfl, rfl⟩
        clear HX hnx
        go_wp2_with (first | (go_at_call 15; refine (HS _).mono ?_; rintro e w2 ⟨rfl, rfl⟩) | (go_at_call 18; refine (HL _).mono ?_; rintro e w2 ⟨rfl, rfl⟩) | (go_at_call 19; refine (HD _).mono ?_; rintro e w2 ⟨rfl, rfl⟩))
        refine (HO _).mono ?_
        rintro e w3 ⟨rfl, kk⟩
        have K3 : Hid (Kp [] (w'.iter s (pos + sz)) w3) := KT.out.trans kk (fun x hx => by simp at hx)
        clear kk KT HS HL HD
        go_wp2_with fail
        refine (HO _).mono ?_
        rintro e w4 ⟨rfl, kk⟩
        have K4 : Hid (Kp [] (w'.iter s (pos + sz)) w4) := K3.out.trans kk (fun x hx => by simp at hx)
        clear kk K3 HO
        go_wp2
        go_roundw
        case rel => exact ⟨pos + sz, K4.out, d2⟩
        case measure =>
          rw [hip, iter_pos K4.out]
          omega
    · have hnx := next_end kq hp
      have k2 := iter_kp kq
      have hls := lower_size s
      have A1 := fun W => lower_any W s (by omega)
      have F1 := fun W => fold_any W s (lower s) (by omega) (by omega)
      simp only [lower_lower, decide_true] at F1
      generalize lower s = A at A1 F1
      clear hls kq
      go_wp2_with fail
      refine (A1 _).mono ?_
      rintro e w2 ⟨rfl, kk⟩
      have k3 := k2.trans kk (fun x hx => by simp at hx)
      clear k2 kk hnx
      go_wp2_with fail
      refine (F1 _).mono ?_
      rintro e w3 ⟨rfl, kk⟩
      have k4 := k3.trans kk (fun x hx => by simp at hx)
      clear k3 kk A1 F1
      go_wp2_with fail
      refine (known_any _).mono ?_
      rintro e w4 ⟨rfl, kk⟩
      have k5 := k4.trans kk (fun x hx => by simp at hx)
      clear k4 kk
      go_wp2
      go_ret
      exact ⟨rfl, k5⟩

end Go.Proofs.Ytcmfobfjlobnoaa
