/-
  The walk of LexerPlaintext: whatever it is given, it answers true, and leaves what was there as it was.
-/
import Derived.Test.YtcfaejbbjmjgpabDoorKnown
import Derived.Test.YtcfaejbbjmjgpabDoorRaws
namespace Go.Proofs.YtcfaejbbjmjgpabDoor
open Go.RowKit Utf
set_option linter.unusedVariables false

def PEND : ByteArray := ⟨#[60, 47, 112, 108, 97, 105, 110, 116, 101, 120, 116, 62, 38, 97, 109, 112, 59]⟩

set_option maxHeartbeats 1000000 in
set_option maxRecDepth 100000 in
theorem ptext_any (w : World) (hn : Nm w) (hi : In w) (s0 : ByteArray) : Calls Tryd.prog 3 #[.string s0] w fun e w' => e = .returned (.bool true) ∧ Kp [] w w' := by
  have hsz := cut_size s0 60
  have HS := fun W => cut_any W s0 60 (by omega)
  generalize (if 60 < s0.size then s0.extract 0 60 else s0) = s at HS hsz
  have z1 : (PT ++ s).size = 11 + s.size := by rw [cat_size]; rfl
  have z2 : ((PT ++ s) ++ PEND).size = 11 + s.size + 17 := by rw [cat_size, z1]; rfl
  have z3 : (s ++ PEND).size = s.size + 17 := by rw [cat_size]; rfl
  have H1 := lall_any w hn hi ((PT ++ s) ++ PEND) (by omega)
  rw [cat_assoc, plaintext_all (m := s ++ PEND) (by omega), ← cat_assoc] at H1
  have HK := fun W (kk : Kp [] w W) => known_any W (hn.kept kk) (hi.kept kk)
  have j1 : ¬ 9223372036854775807 < 11 + s.size := by omega
  have j2 : ¬ 9223372036854775807 < (⟨#[60, 112, 108, 97, 105, 110, 116, 101, 120, 116, 62]⟩ ++ s : ByteArray).size + 17 := by rw [show (⟨#[60, 112, 108, 97, 105, 110, 116, 101, 120, 116, 62]⟩ ++ s : ByteArray) = PT ++ s from rfl, z1]; omega
  have j3 : ¬ 9223372036854775807 < s.size + 17 := by omega
  have q2 : ((s ++ ⟨#[60, 47, 112, 108, 97, 105, 110, 116, 101, 120, 116, 62, 38, 97, 109, 112, 59]⟩ : ByteArray).toList == (s ++ ⟨#[60, 47, 112, 108, 97, 105, 110, 116, 101, 120, 116, 62, 38, 97, 109, 112, 59]⟩ : ByteArray).toList) = true := by simp
  unfold PT PEND at H1
  clear hn hi z1 z2 z3
  go_enter Tryd.func3, Tryd.ntmps3
  go_wp2_with fail
  refine (HS _).mono ?_
  rintro e w' ⟨rfl, rfl⟩
  clear HS
  rename World => w
  go_wp2_with fail
  refine H1.mono ?_
  rintro e w1 ⟨ao, n, c, q, rfl, M, hq⟩
  clear H1 j1 j2
  have hl := M.count hq
  simp only [List.length_cons, List.length_nil] at hl
  subst hl
  obtain ⟨b, off, rfl, a0, a1, a4⟩ := M.rq.told hq 0 (by simp)
  obtain ⟨b', off', e1, b0, b1', b4⟩ := M.rq.told hq 1 (by simp)
  obtain ⟨rfl, rfl⟩ : b = b' ∧ off = off' := by simpa using e1
  obtain ⟨b', off', e2, c0, c1, c4⟩ := M.rq.told hq 2 (by simp)
  obtain ⟨rfl, rfl⟩ : b = b' ∧ off = off' := by simpa using e2
  have kz := M.kp
  have HK := HK _ kz
  clear M hq e1 e2
  simp [txT, PTN, eofT] at a0 a1 a4 b0 b1' b4 c0 c1 c4
  go_wp2_with fail
  refine (from_back HK kz).mono ?_
  rintro e w6 ⟨rfl, k6⟩
  clear HK
  go_wp2
  go_ret
  exact ⟨rfl, k6⟩

end Go.Proofs.YtcfaejbbjmjgpabDoor
